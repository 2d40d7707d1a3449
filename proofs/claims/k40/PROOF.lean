import PyProof.Rows.All
import Wide.All
import OpenK.AllK
import Wide.FinOn
import Lean
import PyProof.EqAt
import PyProof.EqKinds
import PyProof.TupleCall
import PySem.Challenge.RW_camplay_k40_whole_pins_walked
set_option Elab.async false
set_option linter.all false
set_option compiler.extract_closed false
set_option bootstrap.genMatcherCode false
set_option maxRecDepth 100000
set_option maxHeartbeats 4000000
open List (all_cons all_eq_true any_cons any_eq_true append_nil cons_append ext_getElem filterMap_cons filter_append filter_cons filter_nil flatMap_append flatMap_cons foldl_append foldl_cons forIn_cons forIn_nil forall_mem_cons getD_eq_getElem?_getD getElem_idxOf getElem_map getElem_mem getElem_range getElem_take idxOf_lt_length_of_mem length_cons length_filter_le length_map length_nil length_pos_iff length_pos_of_mem length_range length_reverse length_set length_singleton length_take lookup_cons map_append map_congr_left map_cons map_nil map_reverse map_take mem_append mem_append_left mem_append_right mem_cons mem_cons_of_mem mem_cons_self mem_filter mem_flatMap mem_iff_getElem mem_map mem_of_mem_take mem_range mem_reverse mem_singleton nil_append nodup_append nodup_cons nodup_nil nodup_range of_mem_zip pairwise_cons pairwise_iff_getElem pairwise_map pairwise_singleton range_succ reverse_cons size_toArray sum_append sum_cons take_length take_of_length_le take_sublist)
open Lean in
def A4:Nat->Term->MacroM (TSyntax `rcasesPat)
 | 0,_=>Macro.throwUnsupported
 | n+1,t=>match t with
  | `(⟨$xs,*⟩)=>do let ps<-xs.getElems.mapM λx=>do let p<-A4 n x;`(Parser.Tactic.rcasesPatLo| $p:rcasesPat)
                   `(rcasesPat| ⟨$ps,*⟩)
  | `(_)=>`(rcasesPat| _)
  | `($x:ident)=>`(rcasesPat| $x:ident)
  | _=>Macro.throwUnsupported
local macro_rules | `(tactic| let $p:term:=$e) => do let q<-A4 9 p;`(tactic| obtain $q:rcasesPat:=$e)
set_option hygiene false
local macro_rules | `(⇑$x) => `(($x).length)
local macro_rules | `(↥$x) => `(some (.ref $x))
local macro_rules | `(~~~$x) => `(some (.int $x))
set_option hygiene true
local macro_rules | `(∅) => `(by trivial)
local macro_rules | `(#v[$x]) => `(by simpa using $x)
abbrev Nz:=PySem.Value->PySem.Shared->Prop
abbrev Ny:=List (PySem.Addr×PySem.Obj)
abbrev Nw:=PySem.Str->Option PySem.Value
abbrev Nv:=Option PySem.Value
abbrev Nu:=Option Int
abbrev Nt:=List PySem.Expr
abbrev Nr:=List PySem.Env
abbrev Np:=List (Int×Int)
local macro_rules | `(tactic| and_intros) => `(tactic| first | exact .inl rfl | exact .inr rfl | assumption)
local macro_rules | `(⋯) => `(by lia)
local macro_rules | `(nofun) => `(by decide)
abbrev vz:=@List.getElem?_eq_getElem
abbrev vy:=@List.getD_eq_getElem?_getD
abbrev vx:=@List.getElem?_eq_some_iff
abbrev vv:=@List.getElem?_map
abbrev vt:=@List.length_map
abbrev vq:=@List.mem_cons_self
abbrev vp:=@List.mem_cons_of_mem
abbrev vo:=@List.mem_singleton
abbrev vn:=@List.length_append
abbrev vm:=@List.mem_of_getElem?
abbrev vj:=@List.map_append
abbrev vi:=@List.length_take
abbrev vh:=@List.mem_append
abbrev vg:=@Option.map_eq_some_iff
abbrev vf:=@Int.emod_lt_of_pos
abbrev ve:=@Int.emod_nonneg
abbrev vd:=@if_pos
abbrev vc:=@if_neg
abbrev vb:=@Nat.le_refl
abbrev va:=@Nat.zero_le
abbrev vA:=@Int.le_refl
abbrev vB:=@List.getElem?_append_left
abbrev vC:=@List.getElem?_append_right
abbrev vD:=@Nat.lt_of_le_of_lt
abbrev vE:=@Nat.ne_of_lt
abbrev vF:=@Bool.false_ne_true
abbrev vG:=@decide_eq_true
abbrev vH:=@decide_eq_false
abbrev vI:=@PySem.Heap.lt_size
abbrev vJ:=@PySem.Heap.get?_push_of_some
abbrev vK:=@List.mem_map
abbrev vL:=@Option.some.inj
abbrev vO:=@Nat.ne_of_gt
abbrev vP:=@List.mem_filter
abbrev vQ:=@List.length_cons
abbrev vS:=@List.length_singleton
abbrev vV:=@List.pairwise_cons
abbrev vW:=@Nat.le_trans
abbrev vY:=@Nat.le_of_lt
abbrev vZ:=@Nat.lt_trans
abbrev v4:=@List.mem_range
abbrev v5:=@List.take_length
abbrev v6:=@List.map_map
abbrev v7:=@List.foldl_cons
abbrev v8:=@List.filter_cons
abbrev v9:=@List.map_cons
abbrev uz:=@List.sum_cons
abbrev ux:=@Int.zero_add
abbrev uq:=@List.getElem?_take_of_lt
abbrev uo:=@List.nodup_cons
abbrev uh:=@PySem.wpAny_bind
abbrev ug:=@PySem.wpAny_pure
abbrev uf:=@absurd
def ue:1<=PySem.sizeLine:=by decide
def ud:2<=PySem.sizeLine:=by decide
def uc:3<=PySem.sizeLine:=by decide
def ub:4<=PySem.sizeLine:=by decide
abbrev cg := PySem.W.Frag
abbrev L0:=List (List (Int×Int))
abbrev L1:=List (List Int)
abbrev L3:=List (Nat×Int)
abbrev L4:=List (PySem.Str×Int)
abbrev L5:=List Int
abbrev L6:=List Nat
abbrev L7:=List PySem.Addr
abbrev L8:=List PySem.Str
abbrev L9:=List PySem.Value
abbrev q3:=@PySem.F.plainAttrs_list
abbrev q4:=@PySem.F.slot_list_append
abbrev q5:=@PySem.F.type_list_append
abbrev q7:=@PySem.F.plainAttrs_dict
namespace L2
open PySem PySem.Spec PyProof.Rows
noncomputable abbrev Key:=Sum Int Str
noncomputable def fB:Key->Value->Bool
 | .inl k,v=>Value.isInt k v
 | .inr x,v=>Value.isStrOf x v
noncomputable def sM(w:World):Key->Int
 | .inl k=>hashInt k
 | .inr x=>hashStr w x
def Jh:∀{k:Key} {v:Value},fB k v=true->(∃i t,k=Sum.inl i/\v=Value.int i t)\/(∃x t,k=Sum.inr x/\v=Value.str x t)
 | .inl i,v,h=>by
  let⟨t,e⟩:=Value.isInt_shape (k:=i) (v:=v) h;exact .inl ⟨i,t,rfl,e⟩
 | .inr x,v,h=>by
  let⟨t,e⟩:=Value.isStrOf_shape (x:=x) (v:=v) h;exact .inr ⟨x,t,rfl,e⟩
def xh(i:Int)(t:Tok):fB (.inl i) (.int i t)=true:=by simp[fB,Value.isInt]
def xi(x:Str)(t:Tok):fB (.inr x) (.str x t)=true:=by simp[fB,Value.isStrOf]
def IX(a b:Int):decide ((Sum.inl a:Key)=Sum.inl b)=(a==b):=by
 lia
def I0(a b:Str):decide ((Sum.inr a:Key)=Sum.inr b)=decide (a=b):=by
 lia
def IY(a:Int)(b:Str):decide ((Sum.inl a:Key)=Sum.inr b)=false:=vH (λq=>nomatch q)
def IZ(a:Str)(b:Int):decide ((Sum.inr a:Key)=Sum.inl b)=false:=vH (λq=>nomatch q)
noncomputable def bR(prog:Program)(w:World):PySem.KeyKind prog w Key where
 is:=fB
 hash:=sM w
 inj:=λv a b ha hb=>by
  rcases Jh ha with⟨i,t,rfl,rfl⟩ | ⟨x,t,rfl,rfl⟩
  .rcases Jh hb with⟨j,u,rfl,e⟩ | ⟨y,u,rfl,e⟩
   .injection e with e1 _;rw[e1]
   .exact nomatch e
  .rcases Jh hb with⟨j,u,rfl,e⟩ | ⟨y,u,rfl,e⟩
   .exact nomatch e
   .injection e with e1 _;rw[e1]
 byValue:=λk v h=>by
  rcases Jh h with⟨i,t,rfl,rfl⟩ | ⟨x,t,rfl,rfl⟩<;>rfl
 pyHash:=λhv h=>by
  rcases Jh hv with⟨i,t,rfl,rfl⟩ | ⟨x,t,rfl,rfl⟩
  .exact wpAny_pyHash_int h
  .exact wpAny_pyHash_str h
 eqBool:=λhu hv h=>by
  rcases Jh hu with⟨i,t,rfl,rfl⟩ | ⟨x,t,rfl,rfl⟩
  .rcases Jh hv with⟨j,u,rfl,rfl⟩ | ⟨y,u,rfl,rfl⟩
   .rw[IX]at h;exact wpAny_eqBool_int h
   .rw[IY]at h;exact SeqAt.EqAt.int_str i t y u _ _ _ _ h
  .rcases Jh hv with⟨j,u,rfl,rfl⟩ | ⟨y,u,rfl,rfl⟩
   .rw[IZ]at h;exact SeqAt.EqAt.str_int x t j u _ _ _ _ h
   .rw[I0]at h;exact wpAny_eqBool_str h
 «strs»:=λk x t v h=>by
  rcases Jh h with⟨i,u,rfl,e⟩ | ⟨y,u,rfl,e⟩
  .exact nomatch e
  .injection e with e1 _;subst e1;cases v<;>rfl
def Eg(prog:Program)(w:World)(i:Int)(t:Tok):(bR prog w).is (.inl i) (.int i t)=true:=xh i t
def Eh(prog:Program)(w:World)(x:Str)(t:Tok):(bR prog w).is (.inr x) (.str x t)=true:=xi x t
inductive V where
 | cE | bl (b:Bool) | int (i:Int) | str (x:Str) | lH (b:Array UInt8) | qk (b:UInt64) | ref (a:Addr) | ty (n:String)
 deriving DecidableEq
abbrev N3:=Option V
abbrev N2:=List V
noncomputable def RelV:V->Value->Prop
 | .cE,u=>u=Value.none
 | .bl b,u=>u=Value.bool b
 | .int i,u=>∃t,u=Value.int i t
 | .str x,u=>∃t,u=Value.str x t
 | .lH b,u=>∃t,u=Value.bytes b t
 | .qk b,u=>∃t,u=Value.float b t
 | .ref a,u=>u=Value.ref a
 | .ty n,u=>u=Value.type n
noncomputable abbrev Vals:N2->L9->Prop:=Paired RelV
def Vals.length(r:Vals xs us):⇑xs=⇑us:=Paired.length r
theorem Vals.get:∀{xs:N2} {us:L9} {i:Nat} {x:V},Vals xs us->xs[i]?=some x->∃u,us[i]?=some u/\RelV x u
 | _,_,_,_,.nil,e=>by simp at e
 | _,_,0,_,.cons r _,e=>by simp at e;subst e;exact⟨_,rfl,r⟩
 | _,_,i+1,x,.cons _ t,e=>by
  let⟨u,a,b⟩:=Vals.get (i:=i) (x:=x) t #v[e];exact⟨u,#v[a],b⟩
theorem Vals.set(r:RelV x u):∀{xs:N2} {us:L9} (i:Nat),Vals xs us->Vals (xs.set i x) (us.set i u)
 | _,_,_,.nil=>.nil
 | _,_,0,.cons _ t=>.cons r t
 | _,_,i+1,.cons q t=>.cons q (Vals.set r i t)
def Vals.append:∀{xs ys:N2} {us a:L9},Vals xs us->Vals ys a->Vals (xs++ys) (us++a):=by
 intro xs ys us a h s
 induction h with
 | nil=>exact s
 | cons r t ih=>exact .cons r ih
theorem Vals.take:∀{xs:N2} {us:L9} (n:Nat),Vals xs us->Vals (xs.take n) (us.take n)
 | _,_,0,_=>.nil
 | _,_,_+1,.nil=>.nil
 | _,_,n+1,.cons r t=>.cons r (Vals.take n t)
theorem Vals.drop:∀{xs:N2} {us:L9} (n:Nat),Vals xs us->Vals (xs.drop n) (us.drop n)
 | _,_,0,r=>r
 | _,_,_+1,.nil=>.nil
 | _,_,n+1,.cons _ t=>Vals.drop n t
noncomputable def fy:N3->Option Value->Prop
 | some v,some u=>RelV v u
 | none,none=>True
 | _,_=>False
noncomputable def KV{κ:Type}:List (κ×V)->List (κ×Value)->Prop:=Paired λ(p:κ×V) (q:κ×Value)=>p.1=q.1/\RelV p.2 q.2
noncomputable def kV:Key->V
 | .inl i=>.int i
 | .inr x=>.str x
inductive HO where
 | lst (xs:N2)
 | tup (xs:N2)
 | dK (kvs:List (Key×V)) | dT (kvs:List (List Key×V))
 | set (S:Int->Bool) (n:Nat)
 | ins (C dx:Addr) (fs:List (Str×V))
 | own (x:Addr)
 | xd (fs:List (Str×V))
 | met (f x:Addr)
 | uG (lo hi:Int)
 | lU (o:Obj) (u:HO)
 | pK (ps:Array Value)
 | ext (φ:Heap->Prop)
noncomputable abbrev Hp:=Addr->Option HO
noncomputable def upd(H:Hp)(a:Addr)(o:HO):Hp:=λb=>if b=a then some o else H b
def jA{H:Hp}:upd H a o a=some o:=by unfold upd;rw[vd rfl]
def jh{H:Hp}(h:b≠a):upd H a o b=H b:=by unfold upd;rw[vc h]
def Ln{H:Hp}{a:Addr}{o u:HO}:upd (upd H a o) a u=upd H a u:=by
 funext b;unfold upd;split<;>rfl
def Je{H:Hp}(h:H a=some o)(h':H b=some u)(d:o≠u):a≠b:=by
 intro e;subst e;rw[h]at h';exact d (vL h')
def je{H:Hp}(h:H a=some o)(h':H b=none):a≠b:=by
 lia
section
variable(P:Program)(w:World)
noncomputable def cf(H:Hp)(h:Heap)(a:Addr):HO->Prop
 | .lst xs=>⇑xs<=sizeLine/\∃(its:L9) (n:Nat),Vals xs its/\h.get? a=some {cls:=.type "list",data:=.seq its.toArray n}
 | .tup xs=>⇑xs<=sizeLine/\∃its:L9,Vals xs its/\IsTup h a its.toArray
 | .dK kvs=>⇑kvs<=sizeLine/\(a==sysModules)=false/\∃vs,KV kvs vs/\h.DictOf (bR P w) a vs
 | .dT kvs=>⇑kvs<=sizeLine/\(a==sysModules)=false/\∃xs:List (List Key×Addr×Value),
   Paired (λ(p:List Key×V) (q:List Key×Addr×Value)=>p.1=q.1/\H q.2.1=some (.tup (p.1.map kV))/\RelV p.2 q.2.2) kvs xs/\
   ∃o es ep,h.get? a=some o/\o.ExactDict/\o.data = .dict es ep/\es.toList=xs.map (entryOfKey (tupleKind (bR P w)))/\(xs.map (·.1)).Nodup
 | .set S n=>h.SetOf (intKind P w) a S n
 | .ins C dx fs=>H dx=some (.own a)/\⇑fs<=1000/\dx≠a/\h.get? a=some (PySem.W.instObj C dx)/\
   ∃mA,h.Ns1 dx mA/\(∀f,fy (fs.lookup f) (mA f))/\PySem.Within mA (fs.map (·.1))
 | .own _=>∃o,h.get? a=some o
 | .xd fs=>∃mA,h.Ns1 a mA/\∀f,fy (fs.lookup f) (mA f)
 | .uG lo hi=>∃t u v,h.get? a=some {cls:=.type "range",data:=.fields #[.int lo t,.int hi u,.int 1 v]}
 | .lU o u=>h.get? a=some o/\cf H h a u
 | .pK ps=>h.get? a=some {cls:=.none,data:=.fields ps}
 | .met f x=>h.get? a=some (PySem.W.methodObj (.ref f) (.ref x))
 | .ext φ=>φ h/\(∃o,h.get? a=some o)/\∀h1 h2:Heap,φ h1->(∀o,h1.get? a=some o->h2.get? a=some o)->φ h2
def eN(H:Hp)(h:Heap):Prop:=∀a o,H a=some o->cf P w H h a o
end
section
variable{P:Program}{w:World}{H H':Hp}{h h':Heap}{a:Addr}{o:HO}
def cf.lt(x:cf P w H h a o):a<h.objs.size:=by
 cases o with
 | lst xs=>let⟨q,q,q,q,e⟩:=x;exact vI e
 | tup xs=>let⟨q,q,q,p⟩:=x;exact p.lt
 | dK kvs=>let⟨q,q,q,q,o,q,q,e,q⟩:=x;exact vI e
 | dT kvs=>let⟨q,q,q,q,o,q,q,e,q⟩:=x;exact vI e
 | set S n=>let⟨o,q,q,q,e,q⟩:=x;exact vI e
 | ins C dx fs=>let⟨q,q,q,e,q⟩:=x;exact vI e
 | own y=>let⟨q,e⟩:=x;exact vI e
 | xd fs=>let⟨q,⟨q,q,q,e,q⟩,q⟩:=x;exact vI e
 | uG lo hi=>let⟨q,q,q,e⟩:=x;exact vI e
 | lU ob u=>let⟨e,q⟩:=x;exact vI e
 | pK ps=>exact vI (show h.get? a=some _ from x)
 | met f y=>exact vI (show h.get? a=some _ from x)
 | ext φ=>let⟨q,⟨q,e⟩,q⟩:=x;exact vI e
def Paired.sQ{c d:Type}{F G:c->d->Prop}:∀{l₁:List c} {l₂:List d},Paired F l₁ l₂->(∀a b,F a b->G a b)->Paired G l₁ l₂:=by
 intro l₁ l₂ h f
 induction h with
 | nil=>exact .nil
 | cons r t ih=>exact .cons (f _ _ r) ih
def cf.lC(x:cf P w H h a o)(k:∀b u,(b=a\/H b=some (.own a))->h.get? b=some u->h'.get? b=some u)
  (D:∀b,H b=some (.own a)->H' b=some (.own a)) (E:∀b xs,H b=some (.tup xs)->H' b=some (.tup xs)):cf P w H' h' a o:=by
 induction o with
 | lst xs=>let⟨z,l,n,r,e⟩:=x;exact⟨z,l,n,r,k _ _ (.inl rfl) e⟩
 | tup xs=>let⟨z,l,r,g,e,c⟩:=x;exact⟨z,l,r,g,k _ _ (.inl rfl) e,c⟩
 | dK kvs=>let⟨z,y,G,r,g,j,i,e,c⟩:=x;exact⟨z,y,G,r,g,j,i,k _ _ (.inl rfl) e,c⟩
 | dT kvs=>
  let⟨z,y,xs,r,g,j,i,e,c⟩:=x;exact⟨z,y,xs,Paired.sQ r λp q z=>⟨z.1,E _ _ z.2.1,z.2.2⟩,g,j,i,k _ _ (.inl rfl) e,c⟩
 | set S n=>let⟨g,j,i,t,e,c⟩:=x;exact⟨g,j,i,t,k _ _ (.inl rfl) e,c⟩
 | ins C dx fs=>
  let⟨d,z,F,e,m,⟨s,j,i,B,c⟩,r⟩:=x;exact⟨D _ d,z,F,k _ _ (.inl rfl) e,m,⟨s,j,i,k _ _ (.inr d) B,c⟩,r⟩
 | own y=>let⟨g,e⟩:=x;exact⟨g,k _ _ (.inl rfl) e⟩
 | xd fs=>let⟨m,⟨s,j,i,e,c⟩,r⟩:=x;exact⟨m,⟨s,j,i,k _ _ (.inl rfl) e,c⟩,r⟩
 | uG lo hi=>let⟨t,u,v,e⟩:=x;exact⟨t,u,v,k _ _ (.inl rfl) e⟩
 | lU g u ih=>let⟨e,q⟩:=x;exact⟨k _ _ (.inl rfl) e,ih q⟩
 | pK ps=>
  have e:h.get? a=some {cls:=.none,data:=.fields ps}:=x;show h'.get? a=some {cls:=.none,data:=.fields ps};exact k a _ (.inl rfl) e
 | met f y=>
  have e:h.get? a=some (PySem.W.methodObj (.ref f) (.ref y)):=x;show h'.get? a=some (PySem.W.methodObj (.ref f) (.ref y));exact k a _ (.inl rfl) e
 | ext φ=>let⟨p,⟨o,e⟩,A⟩:=x;exact⟨A _ _ p λo q=>k _ _ (.inl rfl) q,⟨o,k _ _ (.inl rfl) e⟩,A⟩
def eN.lt(x:eN P w H h)(e:H a=some o):a<h.objs.size:=(x a o e).lt
def eN.fresh(x:eN P w H h)(e:h.objs.size<=a):H a=none:=by
 cases q:H a with
 | none=>rfl
 | some u=>exact uf (Nat.lt_of_lt_of_le (x.lt q) e) (Nat.lt_irrefl _)
def eN.kept(x:eN P w H h)(k:∀b u,h.get? b=some u->h'.get? b=some u):eN P w H h':=λa o e=>
 (x a o e).lC (λb u j q=>k b u q) (λj q=>q) λj j q=>q
def eN.laid(x:eN P w H h)(k:∀b u,h.get? b=some u->h'.get? b=some u)(i:h.objs.size<=a)(d:cf P w (upd H a o) h' a o):eN P w (upd H a o) h':=λb u e=>by
 have g:=x.fresh i;by_cases f:b=a
 .subst f;rw[jA]at e;cases e;exact d
 .rw[jh f]at e;exact(x b u e).lC (λc v Z q=>k c v q) (λc q=>by rw[jh (je q g)];exact q) λc j q=>by rw[jh (je q g)];exact q
end
def Rd(H:Hp)(a:Addr)(u:HO):Prop:=H a=some u\/∃o,H a=some (.lU o u)
def Rd.ok{H:Hp}(r:Rd H a u)(x:eN P w H h):cf P w H h a u:=by
 rcases r with r | ⟨o,r⟩
 .exact x a u r
 .let⟨_,q⟩:=x a _ r;exact q
noncomputable def rY:Option HO->Prop
 | some (.lst _)=>True
 | some (.dK _)=>True
 | some (.dT _)=>True
 | some (.set _ _)=>True
 | some (.ins _ _ _)=>True
 | some (.ext _)=>True
 | _=>False
section
variable{P:Program}{w:World}{H:Hp}{h h':Heap}{x e:Addr}{o':HO}
def eN.write(p:eN P w H h)(f:rY (H x))(t:e=x\/H e=some (.own x))(k:∀b u,b≠e->h.get? b=some u->h'.get? b=some u)(j:∃u,h'.get? e=some u)
  (l:cf P w (upd H x o') h' x o'):eN P w (upd H x o') h':=λb u q=>by
 have a:∀c y,H c=some (.own y)->c≠x:=λc y r z=>by subst z;rw[r]at f;exact f
 have d:∀c g,H c=some (.tup g)->c≠x:=λc g r z=>by subst z;rw[r]at f;exact f
 by_cases m:b=x
 .subst m;rw[jA]at q;cases q;exact l
 .rw[jh m]at q;by_cases i:b=e
  .have n:H b=some (.own x):=by
    lia
   rw[q]at n;cases n;let⟨v,o⟩:=j;exact⟨v,by rw[i];exact o⟩
  .refine(p b u q).lC (λc v s r=>k c v ?_ r) (λc r=>by rw[jh (a c b r)];exact r) λc g r=>by rw[jh (d c g r)];exact r
   grind
end
structure Un(fs ex:L7)(H H':Hp)(h h':Heap):Prop where
 keep:∀b o,h.get? b=some o->H b=none->b∉fs->b∉ex->h'.get? b=some o
 slot:∀b o,h.get? b=some o->H b=none->b∈fs->b∉ex->∃sl,h'.get? b=some {o with slots:=sl}
 free:∀b o,h.get? b=some o->H b=none->b∉ex->H' b=none
 there:∀b o,h.get? b=some o->b∉ex->∃o',h'.get? b=some o'
 dM:∀b xs,H b=some (.tup xs)->H' b=some (.tup xs)
 iW:∀b o u,H b=some (.lU o u)->H' b=some (.lU o u)
 lZ:∀b ps,H b=some (.pK ps)->∃more,H' b=some (.pK (ps++more))
section
variable{fs fs' ex ex':L7}{H H1 H2:Hp}{h h1 h2 h':Heap}{a x e:Addr}{o:HO}
def Un.any(u:Un fs ex H H1 h h1)(q:h.get? b=some ob)(n:H b=none)(c:b∉ex):∃d,h1.get? b=some {ob with slots:=d}:=by
 by_cases a:b∈fs
 .exact u.slot b ob q n a c
 .exact⟨ob.slots,u.keep b ob q n a c⟩
def Un.kept(k:∀b u,h.get? b=some u->h'.get? b=some u):Un fs ex H H h h':=
 ⟨λb a q j j j=>k b a q,λb a q j j j=>⟨a.slots,k b a q⟩,λj j j n j=>n,λb a q j=>⟨a,k b a q⟩,λj j q=>q,λj j j q=>q,λj c q=>⟨#[],by rw[q];simp⟩⟩
def Un.refl:Un fs ex H H h h:=Un.kept λj j q=>q
def Un.laid(k:∀b u,h.get? b=some u->h'.get? b=some u)(d:h.objs.size<=a)(c:H a=none):Un fs ex H (upd H a o) h h' where
 keep:=λb u q j j j=>k b u q
 slot:=λb u q j j j=>⟨u.slots,k b u q⟩
 free:=λb u q n j=>by rw[jh (vE (Nat.lt_of_lt_of_le (vI q) d))];exact n
 there:=λb u q j=>⟨u,k b u q⟩
 dM:=λb e q=>by rw[jh (je q c)];exact q
 iW:=λb u e q=>by rw[jh (je q c)];exact q
 lZ:=λb f q=>⟨#[],by rw[jh (je q c),q];simp⟩
def Un.write(g:rY (H x))(l:e=x\/H e=some (.own x))(k:∀b u,b≠e->h.get? b=some u->h'.get? b=some u)(c:∃u,h'.get? e=some u):Un fs ex H (upd H x o) h h':=by
 have i:∀b,H b=none->b≠x:=λb n z=>by subst z;rw[n]at g;exact g
 have f:∀b,H b=none->b≠e:=λb n z=>by
  lia
 have d:∀b u,H b=some u->¬rY (some u)->b≠x:=λb u q m z=>⋯
 refine⟨λb u q n Z Z=>k b u (f b n) q,λb u q n Z Z=>⟨u.slots,k b u (f b n) q⟩,λb u q n Z=>by rw[jh (i b n)];exact n,λb u q Z=>?_,
  λb j q=>by rw[jh (d b _ q λz=>z)];exact q,λb u j q=>by rw[jh (d b _ q λz=>z)];exact q,λb p q=>⟨#[],by rw[jh (d b _ q λz=>z),q];simp⟩⟩
 by_cases a:b=e
 .subst a;exact c
 .exact⟨u,k b u a q⟩
end
noncomputable def uH(h:Heap)(H:Hp):L7:=(List.range h.objs.size).filter λa=>(H a).isSome
noncomputable def iX(h:Heap)(H:Hp):Heap:=PySem.W.hideAll h (uH h H)
def FR(h:Heap)(H:Hp):(iX h H).objs.size=h.objs.size:=PySem.W.hideAll_size _ _
def Gk{H:Hp}(e:h.get? b=some o)(n:H b=none):(iX h H).get? b=some o:=
 PySem.W.hideAll_get _ e λa=>by
  have q:(H b).isSome=true:=(vP.mp a).2;rw[n]at q;simp at q
def HF{H:Hp}(e:(iX h H).get? b=some o):h.get? b=some o/\H b=none:=by
 have a:h.get? b=some o:=PySem.W.of_hideAll (uH h H) e;refine⟨a,?_⟩;cases q:H b with
 | none=>rfl
 | some x=>
  have c:b∈uH h H:=vP.mpr ⟨v4.mpr (vI a),by simp[q]⟩;have z:(iX h H).get? b=none:=PySem.W.hideAll_none (uH h H) c;rw[z]at e;cases e
structure Mod(K:cg)(mg:Nw)(base:Heap):Prop where
 sN:K.In base
 glob:base.Ns mainGlobals mg
 blt:∃mb,base.Ns builtinsNs mb/\∀x:Str,x≠"__name__"->mb x=bootBuiltins x
 nolimit:base.NoLimit
structure Cx where
 prog:Program
 w:World
 K:cg
 mg:Str->Option Value
 base:Heap
 A:Around
 N:L8
 s₀:Shared
 H₀:Hp
 env:Env
 outer:List Env
 stack:List Env
 ex:L7
 fn:Str->Bool
 calm:Bool
 pn:List (Addr×Obj)
 xe:Nz
noncomputable def mK(l:Nr):L7:=l.filterMap (·.frame)
noncomputable abbrev Cx.fs(X:Cx):L7:=mK X.outer
def si(sc:Scope)(x:Str):Prop:=sc.names.lookup x=some .local\/sc.names.lookup x=some .cell\/sc.names.lookup x=some .free
def Loc(sc:Scope)(x:Str):Prop:=sc.names.lookup x=some .local\/sc.names.lookup x=some .cell
def Look(env:Env)(h:Heap)(m:Nw)(x:Str)(u:Value):Prop:=
 (env.kindOf x=some .local/\m x=some u)\/((env.kindOf x=some .cell\/env.kindOf x=some .free)/\∃c,env.cells.lookup x=some c/\h.IsCell c (some u))
structure Cx.Ok(X:Cx):Prop where
 mod:Mod X.K X.mg X.base
 kind:X.env.scope.kind = .function
 glob:X.env.globals=mainGlobals
 blt:X.env.builtins=builtinsNs
 above:X.s₀.heap.objs.size<=X.env.locals
 inj:∀x y c,X.env.cells.lookup x=some c->X.env.cells.lookup y=some c->x=y
 has:∀x,(X.env.kindOf x=some .cell\/X.env.kindOf x=some .free)->∃c,X.env.cells.lookup x=some c
 rH:∀x c,X.fn x=true->X.env.cells.lookup x=some c->X.s₀.heap.objs.size<=c
 hd:X.calm=true->X.A.handled=none
 frames:X.A.frames=some X.stack
 tD:X.stack=X.outer\/(X.stack=X.env::X.outer/\X.env.frame=some X.env.locals)
 vR:∀b∈X.ex,b≠X.env.locals/\∀x c,X.env.cells.lookup x=some c->c≠b
 bs:∀b o,X.base.get? b=some o->X.s₀.heap.get? b=some o/\X.H₀ b=none
 n6:X.base.objs.size<=X.s₀.heap.objs.size
 mO:∀b o,X.base.get? b=some o->b∉X.ex
 nD:∀b∈X.ex,b∉X.fs
 gn:X.s₀.heap.FunFrames X.base X.outer
 oU:∀b∈X.fs,X.H₀ b=none
structure Inv(X:Cx)(pins:Ny)(σ:List N3)(H:Hp)(s:Shared):Prop where
 ok:X.Ok
 os:s.os=X.s₀.os
 bare:AllBare s.gens
 base:Un X.fs X.ex X.H₀ H X.s₀.heap s.heap
 loc:∃m,s.heap.Ns X.env.locals m/\∀(i:Nat) (x:Str) (v:V),X.N[i]?=some x->σ[i]?=some (some v)->si X.env.scope x->∃u,RelV v u/\Look X.env s.heap m x u
 cell:∀x c,X.env.cells.lookup x=some c->∃v,s.heap.IsCell c v
 free:H X.env.locals=none
 eS:∀x c,X.env.cells.lookup x=some c->H c=none
 pin:∀p∈X.pn++pins,s.heap.get? p.1=some p.2/\H p.1=none/\p.1≠X.env.locals/\p.1∉X.fs/\∀v,p.2.data≠.cell v
 cw:eN X.prog X.w H s.heap
 len:⇑σ=X.N.length
section
variable{X:Cx}{pins:Ny}{σ:List N3}{H H':Hp}{s:Shared}{h':Heap}
def Cx.Ok.AL(c:X.Ok)(e:X.base.get? b=some o):b∉X.fs:=λa=>by
 have:=(c.gn.mem a).1;rw[e]at this;cases this
def Inv.bs(I:Inv X pins σ H s):∀b o,X.base.get? b=some o->s.heap.get? b=some o/\H b=none:=λb o e=>
 ⟨I.base.keep b o (I.ok.bs b o e).1 (I.ok.bs b o e).2 (I.ok.AL e) (I.ok.mO b o e),I.base.free b o (I.ok.bs b o e).1 (I.ok.bs b o e).2 (I.ok.mO b o e)⟩
def Inv.bk(I:Inv X pins σ H s):∀b o,X.base.get? b=some o->s.heap.get? b=some o:=λb o e=>(I.bs b o e).1
def Inv.mod(I:Inv X pins σ H s):Mod X.K X.mg X.base:=I.ok.mod
def Inv.gQ(I:Inv X pins σ H s):X.K.In s.heap:=I.ok.mod.sN.keeps I.bk
def Inv.lt(I:Inv X pins σ H s):X.env.locals<s.heap.objs.size:=let ⟨_,hn,_⟩:=I.loc;hn.lt
def Inv.sz(I:Inv X pins σ H s):X.s₀.heap.objs.size<=s.heap.objs.size:=vW I.ok.above (vY I.lt)
def Inv.AM(I:Inv X pins σ H s)(h:s.heap.objs.size<=a):a∉X.fs:=λb=>by
 let⟨q,o,c,q⟩:=I.ok.gn.mem b;exact uf (Nat.lt_of_lt_of_le (vI c) (vW I.sz h)) (Nat.lt_irrefl _)
def Inv.u6(I:Inv X pins σ H s):∀x c,X.env.cells.lookup x=some c->c≠X.env.locals:=λx c e z=>by
 let⟨v,o,h,g⟩:=I.cell x c e;let⟨m,⟨i,f,d,b,a,q⟩,q⟩:=I.loc
 lia
def Inv.gn(I:Inv X pins σ H s):s.heap.FunFrames X.base X.outer:=by
 have a:∀(l:Nr),(∀b∈mK l,b∈X.fs)->X.s₀.heap.FunFrames X.base l->s.heap.FunFrames X.base l:=by
  intro l
  induction l with
  | nil=>intro q q;trivial
  | cons env r ih=>
   intro g j;let⟨i,⟨L,o,f,k,m,h⟩,n⟩:=j;have c:L∈X.fs:=g L (by unfold mK;simp_all);let⟨p,e⟩:=I.base.slot L o m (I.ok.oU L c) c λz=>I.ok.nD L z c
   exact⟨i,⟨L,_,f,k,e,h⟩,ih (λb d=>g b (by unfold mK;rw[filterMap_cons,f];exact vp _ d)) n⟩
 exact a X.outer (λq d=>d) I.ok.gn
def Inv.stack(I:Inv X pins σ H s):s.heap.FunFrames X.base X.stack:=by
 rcases I.ok.tD with e | ⟨e,a⟩
 .rw[e];exact I.gn
 .rw[e];let⟨m,b,q⟩:=I.loc;refine .cons (by rw[I.ok.kind];decide) a b ?_ I.gn;exact Heap.get?_none_of_le (vW I.ok.n6 I.ok.above)
def Inv.iA(I:Inv X pins σ H s):∀b∈mK X.stack,b∈X.env.locals::X.fs:=λb a=>by
 rcases I.ok.tD with e | ⟨e,c⟩
 .simp_all
 .rw[e]at a;unfold mK at a;rw[filterMap_cons,c]at a;exact a
def Inv.mu(I:Inv X pins σ H s):∀b∈mK X.stack,H b=none:=λb a=>by
 rcases mem_cons.mp (I.iA b a)with e | a
 .rw[e];exact I.free
 .let⟨_,o,c,_⟩:=I.ok.gn.mem a;exact I.base.free b o c (I.ok.oU b a) λz=>I.ok.nD b z a
def Inv.step{g':Array GenState}{t':Nat}{d':Drawn}{ch:L7}(I:Inv X pins σ H s)
  (h:∀b∈ch,(b∈X.ex\/X.s₀.heap.objs.size<=b)/\b≠X.env.locals/\(∀x c,X.env.cells.lookup x=some c->c≠b)/\∀p∈X.pn++pins,p.1≠b)
  (j:∀b o,b≠X.env.locals->b∉X.fs->b∉ch->s.heap.get? b=some o->H b=none->h'.get? b=some o)
  (A:∀b o,b≠X.env.locals->b∈X.fs->b∉ch->s.heap.get? b=some o->H b=none->∃N,h'.get? b=some {o with slots:=N}) (f:∀b o,b∉ch->s.heap.get? b=some o->H b=none->H' b=none)
  (C:∀b o,b∉ch->s.heap.get? b=some o->∃o',h'.get? b=some o')
  (K:∀b xs,H b=some (.tup xs)->H' b=some (.tup xs)) (F:∀b o u,H b=some (.lU o u)->H' b=some (.lU o u)) (J:∀b ps,H b=some (.pK ps)->∃more,H' b=some (.pK (ps++more)))
  (ns:∀m,s.heap.Ns X.env.locals m->h'.Ns X.env.locals m) (M:eN X.prog X.w H' h') (U:AllBare g') :
  Inv X pins σ H' {s with heap:=h',gens:=g',drawn:=d',toks:=t'}:=by
 have G:∀b o,X.s₀.heap.get? b=some o->b≠X.env.locals:=λb o e=>vE (Nat.lt_of_lt_of_le (vI e) I.ok.above)
 have y:∀b o,X.s₀.heap.get? b=some o->b∉X.ex->b∉ch:=λb o e a B=>by
  rcases(h b B).1 with z | z
  .exact a z
  .exact uf (Nat.lt_of_lt_of_le (vI e) z) (Nat.lt_irrefl _)
 have g:∀x c,X.env.cells.lookup x=some c->∀v,s.heap.IsCell c v->h'.IsCell c v:=λx c e v ⟨o,D,L⟩=>by
  have t:c∉ch:=λz=>(h c z).2.2.1 x c e rfl
  by_cases P:c∈X.fs
  .let⟨N,q⟩:=A c o (I.u6 x c e) P t D (I.eS x c e);exact⟨_,q,L⟩
  .exact⟨o,j c o (I.u6 x c e) P t D (I.eS x c e),L⟩
 refine⟨I.ok,I.os,U,⟨λb o e n B a=>?_,λb o e n B a=>?_,λb o e n a=>?_,λb o e a=>?_,λb xs e=>K b xs (I.base.dM b xs e),λb o xs e=>F b o xs (I.base.iW b o xs e),λb ps e=>?_⟩,?_,λx c e=>?_,?_,λx c e=>?_,λp Q=>?_,M,I.len⟩
 .exact j b o (G b o e) B (y b o e a) (I.base.keep b o e n B a) (I.base.free b o e n a)
 .let⟨N,w⟩:=I.base.slot b o e n B a;let⟨O,E⟩:=A b _ (G b o e) B (y b o e a) w (I.base.free b o e n a);exact⟨O,E⟩
 .let⟨o',w⟩:=I.base.there b o e a;exact f b o' (y b o e a) w (I.base.free b o e n a)
 .let⟨o',w⟩:=I.base.there b o e a;exact C b o' (y b o e a) w
 .let⟨Z,w⟩:=I.base.lZ b ps e;let⟨m2,E⟩:=J b _ w;exact⟨Z++m2,by rw[E,Array.append_assoc]⟩
 .let⟨m,Y,W⟩:=I.loc;refine⟨m,ns m Y,λi x v w E T=>?_⟩;let⟨u,r,l⟩:=W i x v w E T;refine⟨u,r,?_⟩;rcases l with l | ⟨k,c,e,z⟩
  .exact .inl l
  .exact .inr ⟨k,c,e,g x c e _ z⟩
 .let⟨v,z⟩:=I.cell x c e;exact⟨v,g x c e v z⟩
 .let⟨m,⟨o,_,_,D,_⟩,_⟩:=I.loc;exact f _ o (λz=>(h _ z).2.1 rfl) D I.free
 .let⟨v,o,D,L⟩:=I.cell x c e;exact f c o (λz=>(h c z).2.2.1 x c e rfl) D (I.eS x c e)
 .let⟨e,n,R,S,d⟩:=I.pin p Q;have t:p.1∉ch:=λz=>(h p.1 z).2.2.2 p Q rfl
  exact⟨j p.1 p.2 R S t e n,f p.1 p.2 t e n,R,S,d⟩
def Inv.un{t':Nat}(I:Inv X pins σ H s)(u:Un X.fs [] H H' s.heap h')(g:eN X.prog X.w H' h'):Inv X pins σ H' {s with heap:=h',toks:=t'}:=by
 let⟨m,⟨o,p,l,h,r⟩,q⟩:=id I.loc;let⟨v,i⟩:=u.any h I.free (by simp);exact I.step (g':=s.gens) (d':=s.drawn) (ch:=[]) (λq z=>nomatch z) (λb o q f q e n=>u.keep b o e n f (by simp)) (λb o q f q e n=>u.slot b o e n f (by simp)) (λb o q e n=>u.free b o e n (by simp)) (λb o q e=>u.there b o e (by simp)) u.dM u.iW u.lZ (λq j=>by
  let⟨t,d,c,a,k⟩:=j;rw[h]at a;cases a;exact⟨_,d,c,i,k⟩) g I.bare
def Inv.call{g':Array GenState}{t':Nat}{d':Drawn}{ch:L7}(I:Inv X pins σ H s)(u:Un (mK X.stack) ch H H' s.heap h')(j:eN X.prog X.w H' h')(q:AllBare g')
  (d:∀b∈ch,(b∈X.ex\/X.s₀.heap.objs.size<=b)/\b≠X.env.locals/\(∀x c,X.env.cells.lookup x=some c->c≠b)/\∀p∈X.pn++pins,p.1≠b) :
  Inv X pins σ H' {s with heap:=h',gens:=g',drawn:=d',toks:=t'}:=by
 let⟨m,⟨o,y,w,k,r⟩,Z⟩:=id I.loc;let⟨C,i⟩:=u.any k I.free λz=>(d _ z).2.1 rfl
 exact I.step (ch:=ch) d (λb o i l a e n=>u.keep b o e n (λz=>(mem_cons.mp (I.iA b z)).elim i l) a) (λb o Z Z a e n=>u.any e n a) (λb o a e n=>u.free b o e n a) (λb o a e=>u.there b o e a) u.dM u.iW u.lZ (λA t=>by
  let⟨B,h,g,f,v⟩:=t;rw[k]at f;cases f;exact⟨_,h,g,i,v⟩) j q
def Inv.turned{t':Nat}{it:Addr}(I:Inv X pins σ H s)(k:∀b o,b≠it->s.heap.get? b=some o->h'.get? b=some o)(y:H it=none)(f:it≠X.env.locals)
  (i:it∈X.ex\/X.s₀.heap.objs.size<=it) (j:∀x c,X.env.cells.lookup x=some c->c≠it) (l:∀p∈X.pn++pins,p.1≠it):Inv X pins σ H {s with heap:=h',toks:=t'}:=by
 have d:∀b u,H b=some u->b≠it:=λb u e z=>by rw[z,y]at e;cases e
 refine I.step (g':=s.gens) (d':=s.drawn) (ch:=[it]) (λb t=>?_) (λb o Z Z a e Z=>k b o (λz=>a (by simp[z])) e) (λb o Z Z a e Z=>⟨o.slots,k b o (λz=>a (by simp[z])) e⟩) (λZ Z Z Z n=>n)
  (λb o a e=>⟨o,k b o (λz=>a (by simp[z])) e⟩) (λZ Z e=>e) (λZ Z Z e=>e) (λb B e=>⟨#[],by rw[e];simp⟩) (λm w=>?_) (λb u e=>?_) I.bare
 .have e:b=it:=by simpa using t
  subst e;exact⟨i,f,j,l⟩
 .let⟨o,h,g,A,r⟩:=w;exact⟨o,h,g,k _ o (Ne.symm f) A,r⟩
 .refine(I.cw b u e).lC (λc v a q=>k c v ?_ q) (λZ q=>q) λZ Z q=>q
  rcases a with z | z
  .rw[z];exact d b u e
  .exact d c _ z
def Inv.tok(I:Inv X pins σ H s)(t:Nat):Inv X pins σ H {s with toks:=t}:=I.un (h':=s.heap) (t':=t) Un.refl I.cw
def Inv.kept(I:Inv X pins σ H s)(k:∀b u,s.heap.get? b=some u->h'.get? b=some u):Inv X pins σ H {s with heap:=h',toks:=t'}:=I.un (Un.kept k) (I.cw.kept k)
def Inv.laid(I:Inv X pins σ H s)(k:∀b u,s.heap.get? b=some u->h'.get? b=some u)(c:s.heap.objs.size<=a)(d:cf X.prog X.w (upd H a o) h' a o) :
  Inv X pins σ (upd H a o) {s with heap:=h',toks:=t'}:=I.un (Un.laid k c (I.cw.fresh c)) (I.cw.laid k c d)
def Inv.write(I:Inv X pins σ H s)(f:rY (H x))(d:e=x\/H e=some (.own x))(k:∀b u,b≠e->s.heap.get? b=some u->h'.get? b=some u)(a:∃u,h'.get? e=some u)
  (c:cf X.prog X.w (upd H x o) h' x o):Inv X pins σ (upd H x o) {s with heap:=h',toks:=t'}:=I.un (Un.write f d k a) (I.cw.write f d k a c)
def Inv.weak(I:Inv X pins σ H s)(d:S'.length=⇑σ)(w:∀(i:Nat) v,S'[i]?=some (some v)->σ[i]?=some (some v)):Inv X pins S' H s:=
 ⟨I.ok,I.os,I.bare,I.base,let ⟨m,hn,hl'⟩:=I.loc;⟨m,hn,λi x v a b c=>hl' i x v a (w i v b) c⟩,I.cell,I.free,I.eS,I.pin,I.cw,d.trans I.len⟩
def Inv.pins_of(I:Inv X pins σ H s)(h:∀p∈pins',s.heap.get? p.1=some p.2/\H p.1=none/\p.1≠X.env.locals/\p.1∉X.fs/\∀v,p.2.data≠.cell v):Inv X pins' σ H s:=
 ⟨I.ok,I.os,I.bare,I.base,I.loc,I.cell,I.free,I.eS,λp a=>(vh.mp a).elim (λz=>I.pin p (mem_append_left _ z)) (h p),I.cw,I.len⟩
def Bg{N:L8}(e:N.Nodup){i j:Nat}{x:Str}(a:N[i]?=some x)(b:N[j]?=some x):i=j:=by
 let⟨f,c⟩:=vx.mp a;let⟨g,d⟩:=vx.mp b;exact(List.getElem_inj e).mp (c.trans d.symm)
def xD{M:Model}{A:Around}{E:Nz}{i:Nat}{x:Str}{v:V}{u:Value}{Q:Unit->Shared->Prop}(I:Inv X pins σ H s)(hN:X.N.Nodup)(hi:X.N[i]?=some x)(t:Loc X.env.scope x)(r:RelV v u)
  (h:∀s',Inv X pins (σ.set i (some v)) H s'->(∃a,Heap.SameBut a s.heap s'.heap/\(a=X.env.locals\/X.env.cells.lookup x=some a))->Q () s') (hf:X.fn x=true\/X.env.scope.names.lookup x=some .local:=by and_intros):wpAny M A (storeName X.env x u) Q E s:=by
 let⟨m,hn,hl⟩:=id I.loc;have P:(X.env.scope.kind == .class||(X.env.scope.kind == .module&&X.env.locals != X.env.globals))=false:=by rw[I.ok.kind];rfl
 have C:i<⇑σ:=by rw[I.len];exact(vx.mp hi).1
 have D:=I.u6;have l:∀{a:Addr} {K:Heap},(∃o,s.heap.get? a=some o/\H a=none)->Heap.SameBut a s.heap K->eN X.prog X.w H K:=λ{a K} ha f b ob e=>by
  let⟨_,_,Z⟩:=ha;refine(I.cw b ob e).lC (λc W w q=>(f.2 c ?_).trans q) (λ_ q=>q) λ_ _ q=>q
  lia
 rcases t with L | L
 .refine wpAny_storeName_local L hn (λK a0 f=>?_) P;let⟨oL,_,_,a1,_⟩:=id hn;refine h _ ⟨I.ok,I.os,I.bare,⟨λb o e n F t=>?_,λb o e n F t=>?_,I.base.free,λb o e t=>?_,I.base.dM,I.base.iW,I.base.lZ⟩,⟨_,a0,λj y v' g B Y=>?_⟩,λy c e=>?_,I.free,I.eS,λp hp=>?_,l ⟨oL,a1,I.free⟩ f,#v[I.len]⟩ ⟨_,f,.inl rfl⟩
  .exact(f.2 b (vE (Nat.lt_of_lt_of_le (vI e) I.ok.above))).trans (I.base.keep b o e n F t)
  .let⟨sl,g⟩:=I.base.slot b o e n F t;exact⟨sl,(f.2 b (vE (Nat.lt_of_lt_of_le (vI e) I.ok.above))).trans g⟩
  .let⟨o',g⟩:=I.base.there b o e t;exact⟨o',(f.2 b (vE (Nat.lt_of_lt_of_le (vI e) I.ok.above))).trans g⟩
  .by_cases J:j=i
   .subst J;rw[hi]at g;cases g;rw[List.getElem?_set_self C]at B;cases B;exact⟨u,r,.inl ⟨L,by simp⟩⟩
   .rw[List.getElem?_set_ne (Ne.symm J)]at B;let⟨u',r',q⟩:=hl j y v' g B Y;refine⟨u',r',?_⟩;rcases q with⟨k,e⟩ | ⟨k,c,e,z⟩
    .refine .inl ⟨k,?_⟩;have:y≠x:=λe=>J (Bg hN g (e▸hi))
     simp[this,e]
    .exact .inr ⟨k,c,e,z.sameBut f (D y c e)⟩
  .let⟨W,z⟩:=I.cell y c e;exact⟨W,z.sameBut f (D y c e)⟩
  .let⟨e,n,U,nf,d⟩:=I.pin p hp;exact⟨(f.2 p.1 U).trans e,n,U,nf,d⟩
 .have G:X.fn x=true:=by
   lia
  let⟨c,w⟩:=I.ok.has x (.inl L);let⟨W,z⟩:=I.cell x c w;refine wpAny_storeName_cell I.ok.kind L w z (λK N f=>?_);let⟨oc,R,S⟩:=id z;refine h {s with heap:=K} ⟨I.ok,I.os,I.bare,⟨λb o e n F t=>?_,λb o e n F t=>?_,I.base.free,λb o e t=>?_,I.base.dM,I.base.iW,I.base.lZ⟩,⟨m,hn.sameBut f (Ne.symm (D x c w)),λj y v' g B Y=>?_⟩,λy T e=>?_,I.free,I.eS,λp hp=>?_,l ⟨oc,R,I.eS x c w⟩ f,#v[I.len]⟩ ⟨c,f,.inr w⟩
  .exact(f.2 b (vE (Nat.lt_of_lt_of_le (vI e) (I.ok.rH x c G w)))).trans (I.base.keep b o e n F t)
  .let⟨sl,g⟩:=I.base.slot b o e n F t;exact⟨sl,(f.2 b (vE (Nat.lt_of_lt_of_le (vI e) (I.ok.rH x c G w)))).trans g⟩
  .let⟨o',g⟩:=I.base.there b o e t;exact⟨o',(f.2 b (vE (Nat.lt_of_lt_of_le (vI e) (I.ok.rH x c G w)))).trans g⟩
  .by_cases J:j=i
   .subst J;rw[hi]at g;cases g;rw[List.getElem?_set_self C]at B;cases B;exact⟨u,r,.inr ⟨.inl L,c,w,N⟩⟩
   .rw[List.getElem?_set_ne (Ne.symm J)]at B;let⟨u',r',q⟩:=hl j y v' g B Y;refine⟨u',r',?_⟩;rcases q with q | ⟨k,T,e,z'⟩
    .exact .inl q
    .refine .inr ⟨k,T,e,z'.sameBut f ?_⟩;rintro rfl;exact J (Bg hN g (I.ok.inj _ _ _ e w▸hi))
  .by_cases O:T=c
   .subst O;exact⟨_,N⟩
   .let⟨w2,z2⟩:=I.cell y T e;exact⟨w2,z2.sameBut f O⟩
  .let⟨e,n,U,nf,d⟩:=I.pin p hp;refine⟨(f.2 p.1 ?_).trans e,n,U,nf,d⟩;intro q;rw[q,R]at e;have q':oc=p.2:=vL e;exact d W (by rw[<-q'];exact S)
def Wv{E:Nz}{Q:Unit->Shared->Prop}(I:Inv X pins σ H s)(b:X.N.Nodup)(hi:X.N[i]?=some x)(d:Loc X.env.scope x)(r:RelV v u)
  (h:∀s',Inv X pins (σ.set i (some v)) H s'->Q () s') (c:X.fn x=true\/X.env.scope.names.lookup x=some .local:=by and_intros):wpAny M A (storeName X.env x u) Q E s:=
 xD I b hi d r (λs' a q=>h s' a) c
def Inv.sk(I:Inv X pins σ H s)(g:s'.os=s.os)(u:Un (mK X.stack) ch H H' s.heap s'.heap)(d:eN X.prog X.w H' s'.heap)(f:AllBare s'.gens)
  (a:∀b∈ch,(b∈X.ex\/X.s₀.heap.objs.size<=b)/\b≠X.env.locals/\(∀x c,X.env.cells.lookup x=some c->c≠b)/\∀p∈X.pn++pins,p.1≠b):Inv X pins σ H' s':=by
 let⟨i,g',d',t',h⟩:=s';have e:h=s.os:=g;subst e;exact I.call (g':=g') (t':=t') (d':=d') u d f a
end
noncomputable abbrev XK:=Value->Option Addr->Hp->Prop
noncomputable abbrev St:=List N3
noncomputable abbrev VK:=V->Hp->Prop
noncomputable abbrev TE:=St->Hp->VK->Prop
noncomputable abbrev TT:=St->Hp->(Bool->Hp->Prop)->Prop
noncomputable abbrev TA:=St->Hp->(N2->Hp->Prop)->Prop
structure Ends where
 nx:St->Hp->Prop
 rt:VK
 bk:St->Hp->Prop:=λ_ _=>False
 ct:St->Hp->Prop:=λ_ _=>False
noncomputable abbrev TS:=Ends->St->Hp->Prop
def EP(X:Cx)(pins:Ny)(σ:St)(Q:VK)(u:Value)(s':Shared):Prop:=∃v H',Inv X pins σ H' s'/\RelV v u/\Q v H'
def TP(X:Cx)(pins:Ny)(σ:St)(Q:Bool->Hp->Prop)(b:Bool)(s':Shared):Prop:=∃H',Inv X pins σ H' s'/\Q b H'
def AP(X:Cx)(pins:Ny)(σ:St)(Q:N2->Hp->Prop)(us:L9)(s':Shared):Prop:=∃vs H',Inv X pins σ H' s'/\Vals vs us/\Q vs H'
def SP(X:Cx)(pins:Ny)(D:Ends)(f:Flow)(s':Shared):Prop:=
 match f with
 | .next=>∃S' H',Inv X pins S' H' s'/\D.nx S' H'
 | .brk=>∃S' H',Inv X pins S' H' s'/\D.bk S' H'
 | .cont=>∃S' H',Inv X pins S' H' s'/\D.ct S' H'
 | .ret u=>∃v S' H',Inv X pins S' H' s'/\RelV v u/\D.rt v H'
def PE(X:Cx)(e:Expr)(t:TE):Prop:=
 ∀(pins:Ny) (s:Shared) (σ:St) (H:Hp) (Q:VK),Inv X pins σ H s->t σ H Q->wpAny (model X.prog X.w) X.A (eval e X.env) (EP X pins σ Q) X.xe s
def PT(X:Cx)(e:Expr)(t:TT):Prop:=
 ∀(pins:Ny) (s:Shared) (σ:St) (H:Hp) (Q:Bool->Hp->Prop),Inv X pins σ H s->t σ H Q->wpAny (model X.prog X.w) X.A (isTrue e X.env (eval e X.env)) (TP X pins σ Q) X.xe s
def PW(X:Cx)(e:Expr)(t:TT):Prop:=
 ∀(whole:Sem Value) (pins:Ny) (s:Shared) (σ:St) (H:Hp) (Q:Bool->Hp->Prop),Inv X pins σ H s->t σ H Q->wpAny (model X.prog X.w) X.A (isTrue e X.env whole) (TP X pins σ Q) X.xe s
def PW.pt(h:PW X e t):PT X e t:=h _
def PA(X:Cx)(es:Nt)(t:TA):Prop:=
 ∀(pos:Pos) (pins:Ny) (s:Shared) (σ:St) (H:Hp) (Q:N2->Hp->Prop),Inv X pins σ H s->t σ H Q->wpAny (model X.prog X.w) X.A (spliced (backTo pos (starEach es X.env))) (AP X pins σ Q) X.xe s
def PS(X:Cx)(st:Stmt)(t:TS):Prop:=
 ∀(pins:Ny) (s:Shared) (σ:St) (H:Hp) (D:Ends),Inv X pins σ H s->t D σ H->wpAny (model X.prog X.w) X.A (exec st X.env) (SP X pins D) X.xe s
def lS(X:Cx)(st:List Stmt)(t:TS):Prop:=
 ∀(pins:Ny) (s:Shared) (σ:St) (H:Hp) (D:Ends),Inv X pins σ H s->t D σ H->wpAny (model X.prog X.w) X.A (execs st X.env) (SP X pins D) X.xe s
def cv{c:Type}{t:Sem c}{Q b:c->Shared->Prop}{M:Model}{A:Around}{E:Nz}{s:Shared}(h:wpAny M A t Q E s)(d:∀a s,Q a s->b a s):wpAny M A t b E s:=wpAny_mono h d λq q x=>x
section
variable{X:Cx}
def dY(i:Nat):TE:=λσ H Q=>∃v,σ[i]?=some (some v)/\Q v H
def tC(v:V):TE:=λq H Q=>Q v H
def Lg(n:X.N[i]?=some x)(t:si X.env.scope x)(j:(x==("__debug__" : Str))=false:=by decide)(g:(x==("__classdict__" : Str))=false:=by decide):PE X (.Name x pos) (dY i):=by
 intro f s w H Q I h;let⟨v,e,h⟩:=h;let⟨m,q,o⟩:=I.loc;let⟨u,r,l⟩:=o i x v n e t;have b:EP X f w Q u s:=⟨v,H,I,r,h⟩
 rcases l with⟨d,p⟩ | ⟨d,c,k,a⟩
 .exact wpAny_Name (wpAny_loadName_local I.ok.kind d q p b) j
 .rcases d with d | d
  .exact wpAny_Name (wpAny_loadName_cell I.ok.kind d k a b) j
  .exact wpAny_Name (wpAny_loadName_free I.ok.kind d k a b g) j
def jc{i j pos}:PE X (.Constant (.int i) j pos) (tC (.int i)):=λq q q H q I h=>wpAny_Constant_int ⟨.int i,H,I.tok _,⟨_,rfl⟩,h⟩
def yG{b j pos}:PE X (.Constant (.bool b) j pos) (tC (.bl b)):=λq q q H q I h=>Constant_bool ⟨.bl b,H,I,rfl,h⟩
def Wf{j pos}:PE X (.Constant .none j pos) (tC .cE):=λq q q H q I h=>Constant_none ⟨.cE,H,I,rfl,h⟩
def jD{x j pos}:PE X (.Constant (.str x) j pos) (tC (.str x)):=λq q q H q I h=>Calls.Constant_str ⟨.str x,H,I.tok _,⟨_,rfl⟩,h⟩
def Gl(X:Cx)(x:Str):Prop:=X.env.kindOf x=some .globalImplicit
def Xv{E:Nz}{d:St}{H:Hp}{Q:Nz}(I:Inv X pins d H s)(b:Gl X x)(c:X.mg x=some u)(h:Q u s)
  (a:(x==("__debug__" : Str))=false:=by decide):wpAny (model X.prog X.w) X.A (eval (.Name x pos) X.env) Q E s:=
 Calls.Name_function_global I.ok.kind b (Calls.loadGlobal_global (by rw[I.ok.glob];exact I.mod.glob.keeps I.bk) c h) a
def Zv{E:Nz}{i:St}{H:Hp}{Q:Nz}(I:Inv X pins i H s)(d:Gl X x)(e:X.mg x=none)(g:bootBuiltins x=some u)(h:Q u s)
  (f:x≠"__name__":=by decide) (c:(x==("__debug__" : Str))=false:=by decide):wpAny (model X.prog X.w) X.A (eval (.Name x pos) X.env) Q E s:=by
 let⟨j,a,b⟩:=I.mod.blt;exact Calls.Name_function_global I.ok.kind d (Calls.loadGlobal_builtin (by rw[I.ok.glob];exact I.mod.glob.keeps I.bk) e (by rw[I.ok.blt];exact a.keeps I.bk) ((b x f).trans g) h) c
def XW(b:Gl X x)(c:X.mg x=some u)(r:RelV v u)(a:(x==("__debug__" : Str))=false:=by decide):PE X (.Name x pos) (tC v):=
 λq q q H q I h=>Xv I b c ⟨v,H,I,r,h⟩ a
def XV(b:Gl X x)(c:X.mg x=none)(e:bootBuiltins x=some u)(r:RelV v u)(d:x≠"__name__":=by decide)(a:(x==("__debug__" : Str))=false:=by decide):PE X (.Name x pos) (tC v):=
 λq q q H q I h=>Zv I b c e ⟨v,H,I,r,h⟩ d a
variable{a b:Expr}{ta tb:TE}{pos:Pos}
def PC(X:Cx)(op:CmpOp)(a b:Expr)(t:TE):Prop:=
 ∀(pins:Ny) (s:Shared) (σ:St) (H:Hp) (Q:VK),Inv X pins σ H s->t σ H Q->
  wpAny (model X.prog X.w) X.A (eval a X.env) (λv s₁=>wpAny (model X.prog X.w) X.A (eval b X.env) (λu s₂=>wpAny (model X.prog X.w) X.A (compareOp op v u) (EP X pins σ Q) X.xe s₂) X.xe s₁) X.xe s
def tB(t:TE):TT:=λσ H Q=>t σ H λx H1=>∃c,x = .bl c/\Q c H1
def LG{op:CmpOp}{t:TE}(h:PC X op a b t)(f:behindInMarks op b=false:=by first | exact nobehind _ nofun nofun | rfl):PT X (.Compare a [op] [b] pos) (tB t):=by
 intro e s n H Q I k;refine wpAny_isTrue_Compare1 (cv (h e s n H _ I k) λv o f=>cv f λu p j=>cv j λc r ⟨x,g,i,m,l⟩=>?_) f;let⟨d,rfl,q⟩:=l;cases m;exact wpAny_truthy_bool ⟨g,i,q⟩
def ke{e:Expr}{t:TE}(h:PE X e t)(g:∀a,isTrue e X.env a=(do let v <-a;standAt e.pos;holding [v] (truthy v)):=by intro Z;rfl):PT X e (tB t):=by
 intro b s l H Q I i;refine isTrue_plain (cv (h b s l H _ I i) λv m z_=>?_) (g _);obtain⟨x,c,f,k,j⟩:=z_;let⟨d,rfl,q⟩:=j;cases k;exact wpAny_truthy_bool ⟨c,f,q⟩
variable{tA tB':TT}{rest:Nt}
def tE(t u:TT):TT:=λσ H Q=>t σ H λc H1=>if c=true then u σ H1 Q else Q false H1
def D2(t u:TT):TT:=λσ H Q=>t σ H λc H1=>if c=true then Q true H1 else u σ H1 Q
def tL(t:TT):TT:=λσ H Q=>t σ H λc H1=>Q (!c) H1
def qQ(d:PT X a tA):PW X (.BoolOp .And [a] pos) tA:=by
 intro i b s f H Q I h;refine isTrue_and (cv (d b s f H Q I h) λc g e=>?_);cases c with
 | true=>exact isTrue_and_nil e
 | false=>exact e
def Yj(d:PT X a tA):PW X (.BoolOp .Or [a] pos) tA:=by
 intro i b s f H Q I h;refine isTrue_or (cv (d b s f H Q I h) λc g e=>?_);cases c with
 | false=>exact isTrue_or_nil e
 | true=>exact e
def Qc(j:PT X a tA)(k:PW X (.BoolOp .And (b::rest) pos) tB'):PW X (.BoolOp .And (a::b::rest) pos) (tE tA tB'):=by
 intro m d s i H Q I h;refine isTrue_and (cv (j d s i H _ I h) λc l z_=>?_);obtain⟨e,f,g⟩:=z_;cases c with
 | true=>exact k m d l i e Q f g
 | false=>exact⟨e,f,g⟩
def YW(j:PT X a tA)(k:PW X (.BoolOp .Or (b::rest) pos) tB'):PW X (.BoolOp .Or (a::b::rest) pos) (D2 tA tB'):=by
 intro m d s i H Q I h;refine isTrue_or (cv (j d s i H _ I h) λc l z_=>?_);obtain⟨e,f,g⟩:=z_;cases c with
 | true=>exact⟨e,f,g⟩
 | false=>exact k m d l i e Q f g
def yp(e:PT X a tA):PT X (.UnaryOp .Not a pos) (tL tA):=by
 intro b s f H Q I h;exact isTrue_not (e b s f H (λc d=>Q (!c) d) I h)
def pq(ta tb:TE):TE:=λσ H Q=>ta σ H λx H1=>∃c,x = .bl c/\if c=true then tb σ H1 Q else Q (.bl false) H1
def pG(ta:TE):TE:=λσ H Q=>ta σ H λx H1=>∃c,x = .bl c/\Q (.bl (!c)) H1
def Le{op}(h:PE X a t):PE X (.BoolOp op [a] pos) t:=λb s d H Q I c=>BoolOp_one (h b s d H Q I c)
def Lc(j:PE X a ta)(k:PE X (.BoolOp .And (b::rest) pos) tb):PE X (.BoolOp .And (a::b::rest) pos) (pq ta tb):=by
 intro d s i H Q I h;refine BoolOp_and (cv (j d s i H _ I h) λv m z_=>?_);obtain⟨x,f,g,l,e⟩:=z_;let⟨c,rfl,e⟩:=e;cases l;refine wpAny_truthy_bool ?_;cases c with
 | true=>exact k d m i f Q g e
 | false=>exact⟨.bl false,f,g,rfl,e⟩
def Ld(g:PE X a ta):PE X (.UnaryOp .Not a pos) (pG ta):=by
 intro b s j H Q I h;refine UnaryOp_ (cv (g b s j H _ I h) λv k z_=>?_);obtain⟨x,e,f,i,d⟩:=z_;let⟨c,rfl,d⟩:=d;cases i;exact not_of (wpAny_truthy_bool ⟨.bl (!c),e,f,rfl,d⟩)
def D0(t:TT)(ta tb:TE):TE:=λσ H Q=>t σ H λc H1=>if c=true then ta σ H1 Q else tb σ H1 Q
def We{c:Expr}(n:PT X c tA)(l:PE X a ta)(m:PE X b tb):PE X (.IfExp c a b pos) (D0 tA ta tb):=by
 intro e s f H Q I h;refine wpAny_IfExp (cv (n e s f H _ I h) λd k z_=>?_);obtain⟨g,i,j⟩:=z_;cases d with
 | true=>exact l e k f g Q i j
 | false=>exact m e k f g Q i j
end
def bK(K:cg)(H:Hp)(a:Addr)(xs:N2):Prop:=
 Rd H a (.lst xs)\/
  ∃(o:Obj) (its:Array Value) (n:Nat),K.lookup a=some o/\o.cls = .type "list"/\o.dict=none/\o.data = .seq its n/\its.size<=sizeLine/\Vals xs its.toList
def bV(K:cg)(H:Hp)(a:Addr)(xs:N2):Prop:=
 Rd H a (.tup xs)\/
  ∃(o:Obj) (its:Array Value) (n:Nat),K.lookup a=some o/\o.cls = .type "tuple"/\o.data = .seq its n/\its.size<=sizeLine/\Vals xs its.toList
noncomputable def uW:Value->N3
 | .none=>some .cE
 | .bool b=>some (.bl b)
 | .int i _=>~~~i
 | .str x _=>some (.str x)
 | .bytes b _=>some (.lH b)
 | .float b _=>some (.qk b)
 | .ref a=>↥a
 | .type n=>some (.ty n)
 | _=>none
def RelV.abs(r:RelV x u):uW u=some x:=by
 cases x with
 | cE=>cases r;rfl
 | bl _=>cases r;rfl
 | int _=>let⟨t,rfl⟩:=r;rfl
 | str _=>let⟨t,rfl⟩:=r;rfl
 | lH _=>let⟨t,rfl⟩:=r;rfl
 | qk _=>let⟨t,rfl⟩:=r;rfl
 | ref _=>cases r;rfl
 | ty _=>cases r;rfl
def RelV.inj(r:RelV x u)(q:RelV y u):x=y:=vL (r.abs.symm.trans q.abs)
def Vals.inj:∀{xs ys:N2} {us:L9},Vals xs us->Vals ys us->xs=ys:=by
 intro xs ys us h
 induction h generalizing ys with
 | nil=>intro k;cases k;rfl
 | cons r t ih=>
  intro k;cases k with
  | cons r' t'=>rw[r.inj r',ih t']
section
variable{X:Cx}{pins:Ny}{σ:St}{H:Hp}{s:Shared}{a:Addr}{xs ys:N2}
def bK.of{K:cg}(h:H a=some (.lst xs)):bK K H a xs:=.inl (.inl h)
def bV.of{K:cg}(h:H a=some (.tup xs)):bV K H a xs:=.inl (.inl h)
def Inv.list(I:Inv X pins σ H s)(h:bK X.K H a xs):∃b:L9,Vals xs b/\PlainL s.heap a b.toArray/\⇑xs<=sizeLine:=by
 rcases h with h | ⟨o,b,n,f,c,d,g,i,r⟩
 .let⟨z,b,n,r,e⟩:=h.ok I.cw;exact⟨b,r,⟨_,n,e,rfl,rfl,rfl⟩,z⟩
 .refine⟨b.toList,r,⟨o,n,I.gQ a o f,c,d,#v[g]⟩,?_⟩;have e:=⇑r
  simp_all
def Inv.tuple(I:Inv X pins σ H s)(h:bV X.K H a xs):∃b:L9,Vals xs b/\IsTup s.heap a b.toArray/\⇑xs<=sizeLine:=by
 rcases h with h | ⟨o,b,n,d,c,f,g,r⟩
 .let⟨z,b,r,p⟩:=h.ok I.cw;exact⟨b,r,p,z⟩
 .refine⟨b.toList,r,⟨o,I.gQ a o d,c,n,#v[f]⟩,?_⟩;have e:=⇑r
  simp_all
def Inv.fQ(I:Inv X pins σ H s)(h:bK X.K H a xs)(h':bK X.K H a ys):xs=ys:=by
 let⟨c,r,⟨o,n,e,q,q,d⟩,q⟩:=I.list h;let⟨b,i,⟨k,j,g,q,q,f⟩,q⟩:=I.list h';rw[e]at g;cases g;rw[d]at f;injection f with d1 _;have:c=b:=by simpa using congrArg Array.toList d1
 subst this;exact r.inj i
def Inv.iR(I:Inv X pins σ H s)(h:bV X.K H a xs)(h':bV X.K H a ys):xs=ys:=by
 let⟨c,r,⟨o,e,q,n,d⟩,q⟩:=I.tuple h;let⟨b,i,⟨k,g,q,j,f⟩,q⟩:=I.tuple h';rw[e]at g;cases g;rw[d]at f;injection f with d1 _;have:c=b:=by simpa using congrArg Array.toList d1
 subst this;exact r.inj i
end
noncomputable abbrev Cx.iM(X:Cx)(E:Nz):Cx:={X with xe:=E}
noncomputable abbrev Cx.lL(X:Cx):Cx:=X.iM λq q=>False
def Cx.Ok.iM{X:Cx}(a:X.Ok)(E:Nz):(X.iM E).Ok:=
 ⟨a.mod,a.kind,a.glob,a.blt,a.above,a.inj,a.has,a.rH,a.hd,a.frames,a.tD,a.vR,a.bs,a.n6,a.mO,a.nD,a.gn,a.oU⟩
def Cx.Ok.fj{X:Cx}{E:Nz}(a:(X.iM E).Ok):X.Ok:=
 ⟨a.mod,a.kind,a.glob,a.blt,a.above,a.inj,a.has,a.rH,a.hd,a.frames,a.tD,a.vR,a.bs,a.n6,a.mO,a.nD,a.gn,a.oU⟩
section
variable{X:Cx}{pins:Ny}{σ:St}{H:Hp}{s:Shared}{E:Nz}
def Inv.iM(I:Inv X pins σ H s)(E:Nz):Inv (X.iM E) pins σ H s:=⟨I.ok.iM E,I.os,I.bare,I.base,I.loc,I.cell,I.free,I.eS,I.pin,I.cw,I.len⟩
def Inv.fj(I:Inv (X.iM E) pins σ H s):Inv X pins σ H s:=⟨I.ok.fj,I.os,I.bare,I.base,I.loc,I.cell,I.free,I.eS,I.pin,I.cw,I.len⟩
def SP.fj(h:SP (X.iM E) pins D f s'):SP X pins D f s':=by
 cases f with
 | next=>let⟨a,b,I,q⟩:=h;exact⟨a,b,I.fj,q⟩
 | brk=>let⟨a,b,I,q⟩:=h;exact⟨a,b,I.fj,q⟩
 | cont=>let⟨a,b,I,q⟩:=h;exact⟨a,b,I.fj,q⟩
 | ret u=>let⟨v,a,b,I,r,q⟩:=h;exact⟨v,a,b,I.fj,r,q⟩
def lS.lL{st:List Stmt}{t:TS}(h:lS X.lL st t):lS X st t:=λa s c H D I b=>
 wpAny_mono (h a s c H D (I.iM _) b) (λj j q=>q.fj) λj j z=>False.elim z
end
section
variable{X:Cx}{st:Stmt}{rest:List Stmt}{t u:TS}{e:Expr}{te:TE}{pos:Pos}
def pF:TS:=λD σ H=>D.nx σ H
def tO(t u:TS):TS:=λD σ H=>t {D with nx:=u D} σ H
def ju:lS X [] pF:=λq q a H q I h=>wpAny_execs_nil ⟨a,H,I,h⟩
def jb(e:PS X st t)(g:lS X rest u):lS X (st::rest) (tO t u):=by
 intro a s j H D I h;refine wpAny_execs_cons (cv (e a s j H {D with nx:=u D} I h) λf i q=>?_);cases f with
 | next=>
  let⟨b,c,d,q⟩:=q;exact g a i b c D d q
 | ret v=>exact q
 | brk=>exact q
 | cont=>exact q
def jf(b:PS X st t):lS X [st] t:=by
 intro a s c H D I h;refine wpAny_execs_cons (cv (b a s c H D I h) λf d q=>?_);cases f with
 | next=>exact wpAny_execs_nil q
 | ret v=>exact q
 | brk=>exact q
 | cont=>exact q
def Inv.quiet{a:St}{H:Hp}(I:Inv X pins a H s):interactive X.env=false:=by simp[interactive,I.ok.kind]
def pC(te:TE):TS:=λD σ H=>te σ H λq H1=>D.nx σ H1
def jR(f:PE X e te)(g:swapsWith e none pos.line X.env=pure false:=by rfl):PS X (.Expr e pos) (pC te):=by
 intro a s b H D I h;refine wpAny_Expr_any (cv (f a s b H _ I h) λv k z_=>?_) I.quiet g;let⟨x,c,d,j,i⟩:=z_;exact⟨b,c,d,i⟩
def tN(te:TE):TS:=λD σ H=>te σ H D.rt
def jv(f:PE X e te):PS X (.Return (some e) pos) (tN te):=by
 intro a s b H D I h;refine wpAny_Return_some (cv (f a s b H _ I h) λv j z_=>?_);let⟨x,c,d,i,g⟩:=z_;exact⟨x,b,c,d,i,g⟩
def ry(c:TT)(t u:TS):TS:=λD σ H=>c σ H λb H1=>if b=true then t D σ H1 else u D σ H1
def jM{c:Expr}{a b:List Stmt}{l:TT}(o:PT X c l)(m:lS X a t)(n:lS X b u):PS X (.If c a b pos) (ry l t u):=by
 intro e s f H D I h;refine wpAny_If (cv (o e s f H _ I h) λd k z_=>?_);obtain⟨g,i,j⟩:=z_;cases d with
 | true=>exact m e k f g D i j
 | false=>exact n e k f g D i j
def rz:TS:=λq q q=>False
def Yh:PS X st rz:=λq q q q q q h=>h.elim
end
noncomputable abbrev TG:=V->St->Hp->(St->Hp->Prop)->Prop
noncomputable abbrev rG:=N2->St->Hp->(St->Hp->Prop)->Prop
def PG(X:Cx)(target:Expr)(t:TG):Prop:=
 ∀(pins:Ny) (s:Shared) (σ:St) (H:Hp) (v:V) (u:Value) (Q:St->Hp->Prop),Inv X pins σ H s->RelV v u->t v σ H Q->
  wpAny (model X.prog X.w) X.A (assign target X.env u) (λq s'=>∃S' H',Inv X pins S' H' s'/\Q S' H') X.xe s
def tW(X:Cx)(ts:Nt)(t:rG):Prop:=
 ∀(pins:Ny) (s:Shared) (σ:St) (H:Hp) (vs:N2) (us:L9) (Q:St->Hp->Prop),Inv X pins σ H s->Vals vs us->t vs σ H Q->
  wpAny (model X.prog X.w) X.A (assignInOrder ((assignEach ts X.env).map (·.2)) us) (λq s'=>∃S' H',Inv X pins S' H' s'/\Q S' H') X.xe s
noncomputable abbrev pY:=V->V->V->Hp->(Hp->Prop)->Prop
def pW(X:Cx)(t:pY):Prop:=
 ∀(pins:Ny) (s:Shared) (σ:St) (H:Hp) (o i v:V) (ov iv u:Value) (Q:Hp->Prop),Inv X pins σ H s->RelV o ov->RelV i iv->RelV v u->t o i v H Q->
  wpAny (model X.prog X.w) X.A (setItem ov iv u) (λq s'=>∃H',Inv X pins σ H' s'/\Q H') X.xe s
noncomputable abbrev tZ:=V->V->Hp->VK->Prop
def A0(X:Cx)(op:Operator)(t:tZ):Prop:=
 ∀(pins:Ny) (s:Shared) (σ:St) (H:Hp) (x y:V) (v u:Value) (Q:VK),Inv X pins σ H s->RelV x v->RelV y u->t x y H Q->
  wpAny (model X.prog X.w) X.A (inplaceOp op v u) (EP X pins σ Q) X.xe s
section
variable{X:Cx}{pos:Pos}
def bX(i:Nat):TG:=λv σ H Q=>Q (σ.set i (some v)) H
def jt(c:X.N.Nodup)(hi:X.N[i]?=some x)(e:Loc X.env.scope x)(d:X.fn x=true\/X.env.scope.names.lookup x=some .local:=by and_intros):PG X (.Name x pos) (bX i):=by
 intro a s g H v u Q I r h;exact wpAny_assign_Name (Wv I c hi e r (λf b=>⟨_,H,b,h⟩) d)
def cA(i:Nat)(c:X.N.Nodup)(hi:X.N[i]?=some x:=by exact rfl)(e:Loc X.env.scope x:=by exact .inl rfl)(d:X.fn x=true\/X.env.scope.names.lookup x=some .local:=by and_intros):PG X (.Name x pos) (bX i):=jt (i:=i) c hi e d
def mL:rG:=λvs σ H Q=>vs=[]/\Q σ H
def dB(t:TG)(u:rG):rG:=λvs σ H Q=>∃v r,vs=v::r/\t v σ H λS' H'=>u r S' H' Q
def Jc:tW X [] mL:=by
 intro a s b H d c Q I r h;let⟨e,h⟩:=h;subst e;cases r;exact assignInOrder_nil ⟨b,H,I,h⟩
def jz{e:Expr}{es:Nt}{t:TG}{u:rG}(g:PG X e t)(i:tW X es u)
  (j:(assignEach (e::es) X.env).map (·.2)=assign e X.env::(assignEach es X.env).map (·.2):=by rfl):tW X (e::es) (dB t u):=by
 intro a s m H p n Q I r h;let⟨v,o,f,h⟩:=h;subst f;cases r with
 | cons r rr=>
  rw[j];refine assignInOrder_cons (cv (g a s m H _ _ _ I r h) λq l z_=>?_);obtain⟨b,c,d,k⟩:=z_;exact i a l b c _ _ Q d rr k
def mM(K:cg)(n:Nat)(t:rG):TG:=λv σ H Q=>∃a xs,v = .ref a/\bV K H a xs/\⇑xs=n/\t xs σ H Q
def Ju(p:X.calm=true)(h:tW X es t)
  (w:⇑(assignEach es X.env)=n:=by rfl) (d:(assignEach es X.env).findIdx? (·.1)=none:=by rfl):PG X (.Tuple es k pos) (mM X.K n t):=by
 intro c s i H v u Q I r f;let⟨a,B,l,x,q,f⟩:=f;subst l;cases r;let⟨A,g,y,C⟩:=I.tuple x;refine assign_Tuple_tuple (I.ok.hd p) y (by simp[w,<-q,⇑g]) d λm z=>?_
 have j:Inv X c i H {s with heap:=m}:=I.kept (t':=s.toks) λb o e=>z b o (vE (vI e)) e
 exact h c _ i H B _ Q j #v[g] f
def sx(to ti:TE)(t:pY):TG:=λv σ H Q=>to σ H λo H1=>ti σ H1 λi H2=>t o i v H2 λH3=>Q σ H3
def ka{o i:Expr}{e d:TE}{t:pY}(p:PE X o e)(hi:PE X i d)(q:pW X t)
  (n:∀v,assign (.Subscript o i pos) X.env v=(do
   let ov <-holding [v] (eval o X.env)
   let b <-holding [v,ov] (eval i X.env)
   standAt pos
   holding [v,ov,b] (setItem ov b v)
   release [v,ov,b] []):=by intro Z;rfl):PG X (.Subscript o i pos) (sx e d t):=by
 intro a s c H v u Q I r h;rw[n];refine uh (wpAny_holding (cv (p a s c H _ I h) λov D z_=>?_));obtain⟨x,f,k,B,w⟩:=z_;refine uh (wpAny_holding (cv (hi a D c f _ k w) λb E z_=>?_));obtain⟨y,g,l,C,z⟩:=z_;refine uh (wpAny_standAt (uh (wpAny_holding (cv (q a E c g x y v ov b u _ l B C r z) λZ F z_=>?_))));obtain⟨j,m,A⟩:=z_;exact wpAny_release ⟨c,j,m,A⟩
def nM(te:TE)(g:TG):TS:=λD σ H=>te σ H λx H1=>g x σ H1 D.nx
def Yg{b e:Expr}{c:TE}{g:TG}(k:PE X e c)(l:PG X b g)(m:swapsWithSole [b] e pos.line X.env=pure false:=by rfl)(hw:swappedStores [b] e X.env=pure none:=by rfl)
  (j:(assignEach [b] X.env).map (·.2)=[assign b X.env]:=by rfl):PS X (.Assign [b] e pos) (nM c g):=by
 intro a s d H D I h;refine wpAny_Assign_stores (cv (k a s d H _ I h) λv p z_=>?_) m hw;obtain⟨x,f,i,o,n⟩:=z_;rw[j];exact cv (l a p d f x v _ i o n) λZ r q=>q
def jo{i:Nat}{x:Str}{e:Expr}{c:TE}{a:Pos}(j:X.N.Nodup)(hi:X.N[i]?=some x)(n:Loc X.env.scope x)(k:PE X e c)(m:swapsWith e (some (.Name x a)) pos.line X.env=pure false:=by rfl)(l:X.fn x=true\/X.env.scope.names.lookup x=some .local:=by and_intros) :
  PS X (.Assign [.Name x a] e pos) (nM c (bX i)):=by
 intro b s q H D I h;refine wpAny_Assign_Name (cv (k b s q H _ I h) λv r z_=>?_) m;obtain⟨y,d,f,p,o⟩:=z_;exact Wv f j hi n p (λt g=>⟨_,d,g,o⟩) l
def cj(i:Nat){x:Str}{e:Expr}{c:TE}{a:Pos}(j:X.N.Nodup)(k:PE X e c)(hi:X.N[i]?=some x:=by exact rfl)(n:Loc X.env.scope x:=by exact .inl rfl)(m:swapsWith e (some (.Name x a)) pos.line X.env=pure false:=by rfl)(l:X.fn x=true\/X.env.scope.names.lookup x=some .local:=by and_intros) : PS X (.Assign [.Name x a] e pos) (nM c (bX i)):=jo (i:=i) j hi n k m l
def tF(i:Nat)(te:TE)(ti:tZ):TS:=λD σ H=>∃x,σ[i]?=some (some x)/\te σ H λy H1=>ti x y H1 λz H2=>D.nx (σ.set i (some z)) H2
def LF{i:Nat}{x:Str}{e:Expr}{q:TE}{op:Operator}{t:tZ}{f:Pos}(K:X.N.Nodup)(hi:X.N[i]?=some x)(n:Loc X.env.scope x)(M:PE X e q)(R:A0 X op t)(N:X.fn x=true\/X.env.scope.names.lookup x=some .local:=by and_intros) :
  PS X (.AugAssign (.Name x f) op e pos) (tF i q t):=by
 intro a s A H D I h;let⟨v,J,h⟩:=h;let⟨m,Q,O⟩:=I.loc;have o:si X.env.scope x:=by rcases n with k | k;exact .inl k;exact .inr (.inl k)
 let⟨u,r,l⟩:=O i x v hi J o;refine wpAny_AugAssign_Name ?_;have p:wpAny (model X.prog X.w) X.A (eval e X.env) (λw g=>wpAny (model X.prog X.w) X.A (inplaceOp op u w) (λr j=>wpAny (model X.prog X.w) X.A (storeName X.env x r) (λ_=>SP X a D .next) X.xe j) X.xe g) X.xe s:=by
  refine cv (M a s A H _ I h) λw Y z_=>?_;obtain⟨y,B,E,U,S⟩:=z_
  refine cv (R a Y A B v y u w _ E r U S) λz Z z_=>?_;obtain⟨zv,C,F,W,T⟩:=z_
  exact Wv F K hi n W (λs3 G=>⟨_,C,G,T⟩) N
 rcases l with⟨b,P⟩ | ⟨b,c,L,d⟩
 .exact wpAny_loadName_local I.ok.kind b Q P p
 .rcases b with b | b
  .exact wpAny_loadName_cell I.ok.kind b L d p
  .rcases n with k | k
   .have:X.env.scope.names.lookup x=some .free:=b;rw[k]at this;cases this
   .have:X.env.scope.names.lookup x=some .free:=b;rw[k]at this;cases this
noncomputable def A6(f:Int->Int->Int):tZ:=λx y H Q=>∃i j,x = .int i/\y = .int j/\Q (.int (f i j)) H
def IV:A0 X .Add (A6 λi j=>i+j):=by
 intro a s g H x y v u Q I d e h;let⟨i,j,b,c,q⟩:=h;subst b;subst c;let⟨t,rfl⟩:=d;let⟨f,rfl⟩:=e;exact iadd_int ⟨.int _,H,I.tok _,⟨_,rfl⟩,q⟩
def rB(c:TT)(tb:TS):TS:=λD σ H=>∃W:Nat->St->Hp->Prop,(∃m,W m σ H)/\∀m σ H,W m σ H->
 c σ H λb H1=>if b=true then∃N:St->Hp->Prop,(∀S' H',N S' H'->∃m',m'<m/\W m' S' H')/\tb {D with nx:=N,ct:=N,bk:=D.nx} σ H1 else D.nx σ H1
def Wj{c:Expr}{g:List Stmt}{C:TT}{B:TS}(A:PassesOwn (model X.prog X.w) X.A X.env X.xe)(G:PT X c C)(F:lS X g B):PS X (.While c g [] pos) (rB C B):=by
 intro a s P H D I h;let⟨W,⟨J,O⟩,j⟩:=h;refine wpAny_While (codeAny_whileLoop (λn K=>∃k u,Inv X a k u K/\W n k u) ?_ J ⟨P,H,I,O⟩);rintro n L ⟨e,w,E,w1⟩;refine wpAny_passesOwn A (cv (G a L e w _ E (j n e w w1)) λb M z_=>?_);obtain⟨x,y,l⟩:=z_;cases b with
 | true=>
  let⟨N,z,l⟩:=l;rw[vd rfl];refine wpAny_passesOwn A (cv (F a M e x _ y l) λf Q m=>?_);cases f with
  | next=>
   let⟨d,i,o,r⟩:=m;let⟨q,p,t⟩:=z d i r;exact⟨q,p,d,i,o,t⟩
  | cont=>
   let⟨d,i,o,r⟩:=m;let⟨q,p,t⟩:=z d i r;exact⟨q,p,d,i,o,t⟩
  | brk=>exact m
  | ret v=>exact m
 | false=>
  rw[vc vF];exact wpAny_execs_nil ⟨e,x,y,l⟩
end
structure It where
 go:Nat->Hp->Prop
 lF:Nat->Hp->V->Hp->Prop
 stop:Nat->Hp->Prop
def fw(X:Cx)(pins:Ny)(H:Hp)(b:Addr):Prop:=
 H b=none/\b≠X.env.locals/\b∉X.fs/\(b∈X.ex\/X.s₀.heap.objs.size<=b)/\(∀x c,X.env.cells.lookup x=some c->c≠b)/\∀p∈X.pn++pins,p.1≠b
def Inv.gX{g:St}{H H':Hp}(I:Inv X pins g H s)(a:s.heap.objs.size<=b)(d:H' b=none):fw X pins H' b:=by
 refine⟨d,vO (Nat.lt_of_lt_of_le I.lt a),I.AM a,.inr (vW I.sz a),λx c e z=>?_,λp f z=>?_⟩
 .let⟨v,q⟩:=I.cell x c e;exact uf (Nat.lt_of_lt_of_le q.lt (by rw[z];exact a)) (Nat.lt_irrefl _)
 .exact uf (Nat.lt_of_lt_of_le (vI (I.pin p f).1) (by rw[z];exact a)) (Nat.lt_irrefl _)
structure Turn(P:Program)(w:World)(K:cg)(tg:Expr)(J:It)(fp:L7)(it:Addr)(tn:Nat->Heap->Prop):Prop where
 mem:it∈fp
 obj:∀i h,tn i h->∀b∈fp,∃o,h.get? b=some o/\∀v,o.data≠.cell v
 keep:∀i h h',tn i h->(∀b∈fp,∀o,h.get? b=some o->h'.get? b=some o)->tn i h'
 item:∀(X:Cx),X.prog=P->X.w=w->X.K=K->X.calm=true->∀(i:Nat) (pins:Ny) (s:Shared) (σ:St) (H:Hp) (E:Nz),Inv X pins σ H s->(∀b∈fp,fw X pins H b)->tn i s.heap->J.go i H->
  wpAny (model P w) X.A (pyNext (.ref it)) (λr s1=>∃u,r=some u/\
   wpAny (model P w) X.A (letOwnedTupleGo tg (.ref it) u) (λ_ s2=>∃x H',Inv X pins σ H' s2/\RelV x u/\J.lF i H x H'/\tn (i+1) s2.heap/\∀b∈fp,H' b=none) E s1) E s
 done:∀(X:Cx),X.prog=P->X.w=w->X.K=K->X.calm=true->∀(i:Nat) (pins:Ny) (s:Shared) (σ:St) (H:Hp) (E:Nz),Inv X pins σ H s->(∀b∈fp,fw X pins H b)->tn i s.heap->J.stop i H->
  wpAny (model P w) X.A (pyNext (.ref it)) (λr s1=>r=none/\Inv X pins σ H s1) E s
 self:∀(A:Around) (i:Nat) (s:Shared) (Q:Nz) (E:Nz),tn i s.heap->Q (.ref it) s->wpAny (model P w) A (pyIter (.ref it)) Q E s
noncomputable abbrev TI:=St->Hp->(It->Hp->Prop)->Prop
def uS(X:Cx)(pins:Ny)(σ:St)(tg:Expr)(R:It->Hp->Prop)(itv:Value)(s2:Shared):Prop:=
 ∃(it:Addr) (fp:L7) (tn:Nat->Heap->Prop) (J:It) (H':Hp),itv = .ref it/\Inv X pins σ H' s2/\Turn X.prog X.w X.K tg J fp it tn/\tn 0 s2.heap/\(∀b∈fp,fw X pins H' b)/\R J H'
def PI(X:Cx)(tg iter:Expr)(wi:TI):Prop:=
 ∀(pins:Ny) (s:Shared) (σ:St) (H:Hp) (R:It->Hp->Prop),Inv X pins σ H s->wi σ H R->
  wpAny (model X.prog X.w) X.A (eval iter X.env) (λv s1=>wpAny (model X.prog X.w) X.A (pyIter v) (uS X pins σ tg R) X.xe s1) X.xe s
def sI{E:Nz}{Q:Unit->Shared->Prop}(e:s.heap.get? it=some o)(b:o.cls = .type n)(c:o.data = .fields vs)
    (d:["enumerate","zip","dict_itemiterator","dict_reverseitemiterator","odict_iterator","itertools.zip_longest","itertools.pairwise"].contains n=false) (a:Q () s):wpAny M A (letOwnedTupleGo tg (.ref it) u) Q E s:=by
  unfold letOwnedTupleGo;cases tg<;>first
    | exact ug a
    | (cases u<;>first
        | exact ug a
        | (refine uh (wpAny_load e ?_)
           rw[b,c];show wpAny M A (if(["enumerate","zip","dict_itemiterator","dict_reverseitemiterator","odict_iterator","itertools.zip_longest","itertools.pairwise"].contains n&&vs[0]?==some (rawInt _))=true then _ else _) Q E s;rw[vc (by intro h;rw[d,Bool.false_and]at h;cases h)];exact ug a))
def oh(K:cg)(a:Addr):It:=
 ⟨λi H=>∃xs x,bK K H a xs/\xs[i]?=some x,λi H x H'=>H'=H/\∀xs,bK K H a xs->xs[i]?=some x,λi H=>∃xs,bK K H a xs/\⇑xs<=i⟩
def oi(K:cg)(a:Addr):It:=
 ⟨λi H=>∃xs x,bV K H a xs/\xs[i]?=some x,λi H x H'=>H'=H/\∀xs,bV K H a xs->xs[i]?=some x,λi H=>∃xs,bV K H a xs/\⇑xs<=i⟩
def nV(lo:Int)(n:Nat):It:=⟨λi q=>i<n,λi H x H'=>H'=H/\x = .int (lo+i),λi q=>n<=i⟩
def Ge{P:Program}{w:World}{K:cg}{Y:Expr}(a it:Addr):Turn P w K Y (oh K a) [it] it (λi h=>h.IsListIter it a i) where
 mem:=by simp
 obj:=λi h f b j=>by
  have e:b=it:=by simpa using j
  subst e;let⟨o,e,c,d⟩:=f
  simp_all
 keep:=λi h m f k=>f.at λo e=>k it (by simp) o e
 item:=by
  intro X B D A L i g s M H E I n f C;subst B D A;let⟨Z,x,q,F⟩:=C;let⟨G,J,p,T⟩:=I.list q;let⟨u,R,U⟩:=J.get F;let⟨r,t,Q,v,y,z⟩:=n it (by simp);refine wpAny_pyNext_list_item f p.isList (x:=u) #v[R] λm l W=>?_
  have N:Inv X g M H {s with heap:=m}:=I.turned (t':=s.toks) (λb o j e=>(W.2 b j).trans e) r t v y z;let⟨o,e,c,d⟩:=id l;exact⟨u,rfl,sI (s:={s with heap:=m}) e c d nofun ⟨x,H,N,U,⟨rfl,λys S=>by rw[I.fQ S q];exact F⟩,l,λb j=>(n b j).1⟩⟩
 done:=by
  intro X B D A L i g s M H E I n f C;subst B D A;let⟨Z,q,F⟩:=C;let⟨G,J,p,T⟩:=I.list q;let⟨r,t,Q,v,y,z⟩:=n it (by simp);have hl:=⇑J;exact wpAny_pyNext_list_end (I.ok.hd L) f p.isList (by simp;lia) λm O=>⟨rfl,I.turned (t':=s.toks) (λb o j e=>O b o j e) r t v y z⟩
 self:=λ_ _ _ _ _ f h=>wpAny_pyIter_listiter f h
def EY{P:Program}{w:World}{K:cg}{Y:Expr}(a it:Addr):Turn P w K Y (oi K a) [it] it (λi h=>h.IsTupleIter it a i) where
 mem:=by simp
 obj:=λi h f b j=>by
  have e:b=it:=by simpa using j
  subst e;let⟨o,e,c,d⟩:=f
  simp_all
 keep:=λi h n f k=>f.at λo e=>k it (by simp) o e
 item:=by
  intro X C F B L i g s M H E I q f D;subst C F B;let⟨Z,x,r,G⟩:=D;let⟨l,J,p,T⟩:=I.tuple r;let⟨u,R,U⟩:=J.get G;let⟨t,v,Q,y,z,A⟩:=q it (by simp);refine wpAny_pyNext_tuple_item f (show s.heap.IsTuple a l.toArray from p) (x:=u) #v[R] λn m W=>?_
  have N:Inv X g M H {s with heap:=n}:=I.turned (t':=s.toks) (λb o j e=>(W.2 b j).trans e) t v y z A;let⟨o,e,c,d⟩:=id m;exact⟨u,rfl,sI (s:={s with heap:=n}) e c d nofun ⟨x,H,N,U,⟨rfl,λys S=>by rw[I.iR S r];exact G⟩,m,λb j=>(q b j).1⟩⟩
 done:=by
  intro X C F B L i g s M H E I q f D;subst C F B;let⟨Z,r,G⟩:=D;let⟨l,J,p,T⟩:=I.tuple r;let⟨t,v,Q,y,z,A⟩:=q it (by simp);have hl:=⇑J;exact wpAny_pyNext_tuple_end (I.ok.hd L) f (show s.heap.IsTuple a l.toArray from p) (by simp;lia) λn O=>⟨rfl,I.turned (t':=s.toks) (λb o j e=>O b o j e) t v y z A⟩
 self:=λ_ _ _ _ _ f h=>wpAny_pyIter_tupleiter f h
def EX{P:Program}{w:World}{K:cg}{M:Expr}(it:Addr)(lo:Int)(n:Nat):Turn P w K M (nV lo n) [it] it (λi h=>IsRangeIter h it (lo+(i:Nat)*1) ((n:Int)-(i:Nat)) 1) where
 mem:=by simp
 obj:=λi h c b d=>by
  simp_all
 keep:=λi h g c k=>k it (by simp) _ c
 item:=by
  intro X x A u y i a s C H E I j c z;subst x A u;let⟨l,m,G,p,q,r⟩:=j it (by simp);have W:=Walks.range (prog:=X.prog) (w:=X.w) (I.ok.hd y) it lo 1 n;refine W.item i s _ _ z c λv g B J f L=>?_
  let⟨t,rfl⟩:=J;have D:Inv X a C H {s with heap:=g,toks:=B}:=I.turned (λb o d e=>L b o #v[d] e) l m p q r;refine⟨_,rfl,sI (s:={s with heap:=g,toks:=B}) (n:="range_iterator") f rfl rfl nofun ⟨.int (lo+i),H,D,⟨t,?_⟩,⟨rfl,rfl⟩,f,λb d=>(j b d).1⟩⟩;rw[Int.mul_one]
 done:=by
  intro X x A u y i a s C H E I j c z;subst x A u;let⟨l,m,G,p,q,r⟩:=j it (by simp);exact wpAny_pyNext_range_end (I.ok.hd y) c (by have:n<=i:=z;lia) λg F=>⟨rfl,I.turned (t':=s.toks) (λb o d e=>F b o d e) l m p q r⟩
 self:=λZ Z Z Z Z c h=>wpAny_pyIter_rangeiter c h
section
variable{X:Cx}{tg:Expr}
def oW(K:cg)(tl:TE):TI:=λσ H R=>tl σ H λx H1=>∃a,x = .ref a/\(∃xs,bK K H1 a xs)/\R (oh K a) H1
def sC(K:cg)(tl:TE):TI:=λσ H R=>tl σ H λx H1=>∃a,x = .ref a/\(∃xs,bV K H1 a xs)/\R (oi K a) H1
def jY{l:Expr}{g:TE}(k:PE X l g):PI X tg l (oW X.K g):=by
 intro c s u H R I h;refine cv (k c s u H _ I h) λv f z_=>?_;obtain⟨x,i,d,t,r⟩:=z_
 let⟨a,e,⟨z,m⟩,q⟩:=r;subst e;cases t;let⟨n,y,p,w⟩:=d.list m;refine wpAny_pyIter_list p.isList ?_;refine⟨f.heap.objs.size,[f.heap.objs.size],_,_,i,rfl,d.kept (t':=f.toks) λb o e=>vJ _ e,Ge a _,⟨_,Heap.get?_push_size _ rfl,rfl,rfl⟩,λb j=>?_,q⟩;have e:b=f.heap.objs.size:=by simpa using j
 subst e;exact d.gX (vb _) (d.cw.fresh (vb _))
def yg{l:Expr}{i:TE}(m:PE X l i):PI X tg l (sC X.K i):=by
 intro c s u H R I h;refine cv (m c s u H _ I h) λv d z_=>?_;obtain⟨x,j,f,t,r⟩:=z_
 let⟨a,e,⟨z,n⟩,q⟩:=r;subst e;cases t;let⟨g,y,p,w⟩:=f.tuple n;refine wpAny_pyIter_tuple (show d.heap.IsTuple a g.toArray from p) ?_;refine⟨d.heap.objs.size,[d.heap.objs.size],_,_,j,rfl,f.kept (t':=d.toks) λb o e=>vJ _ e,EY a _,⟨_,Heap.get?_push_size _ rfl,rfl,rfl⟩,λb k=>?_,q⟩;have e:b=d.heap.objs.size:=by simpa using k
 subst e;exact f.gX (vb _) (f.cw.fresh (vb _))
def GL{a:Ny}{f:St}{H:Hp}{s:Shared}{R:It->Hp->Prop}{E:Nz}{lo hi:Int}{t u v:Tok}{d:Nat}(I:Inv X a f H s)(i : -(2^62)<=lo)(j:lo<2^62)(k : -(2^62)<=hi)(l:hi<2^62)
  (q:R (nV lo (hi-lo).toNat) H):wpAny (model X.prog X.w) X.A (pyIter (.ref s.heap.objs.size)) (uS X a f tg R) E {s with heap:=s.heap.push {cls:=.type "range",data:=.fields #[.int lo t,.int hi u,.int 1 v]},toks:=d}:=by
 refine wpAny_pyIter_range (IsRange.new ..) (small_one i j k l) ?_;have c:Inv X a f H {s with heap:=s.heap.push {cls:=.type "range",data:=.fields #[.int lo t,.int hi u,.int 1 v]},toks:=d}:=I.kept λb o e=>vJ _ e
 refine⟨(s.heap.push {cls:=.type "range",data:=.fields #[.int lo t,.int hi u,.int 1 v]}).objs.size,[(s.heap.push {cls:=.type "range",data:=.fields #[.int lo t,.int hi u,.int 1 v]}).objs.size],_,_,H,rfl,
  c.kept (t':=d) λb o e=>vJ _ e,EX _ lo (hi-lo).toNat,?_,λb m=>?_,q⟩
 .have g:lo+((0:Nat):Int)*1=lo:=by simp
  have h:(((hi-lo).toNat:Nat):Int)-((0:Nat):Int)=Builtin.Range.rangeSize lo hi 1:=by rw[rangeSize_one];split<;>lia
  show IsRangeIter _ _ (lo+((0:Nat):Int)*1) ((((hi-lo).toNat:Nat):Int)-((0:Nat):Int)) 1;rw[g,h];exact Heap.get?_push_size _ rfl
 .have e:b=(s.heap.push {cls:=.type "range",data:=.fields #[.int lo t,.int hi u,.int 1 v]}).objs.size:=by simpa using m
  subst e;exact c.gX (vb _) (c.cw.fresh (vb _))
def oX(ta:TA):TI:=λσ H R=>ta σ H λvs H1=>∃j:Int,vs=[.int j]/\-(2^62)<=j/\j<2^62/\R (nV 0 j.toNat) H1
def qP{a:Expr}{f:TA}{p c:Pos}(k:Gl X "range")(l:X.mg "range"= none)(i:PA X [a] f)(m:starEach [a] X.env=[(false,eval a X.env)]:=by rfl):PI X tg (.Call (.Name "range" p) [a] [] c) (oX f):=by
 intro b s u H R I h;refine Call_ (Zv I k l boot_range (PyProof.Rows.callWith_type1 (cv (i c b s u H _ I h) λx w z_=>?_) m rfl));obtain⟨y,v,g,o,d⟩:=z_;let⟨j,e,d,n,q⟩:=d;subst e;cases o with
 | cons r rr=>
  cases rr;let⟨t,rfl⟩:=r;exact call_range_1 (GL g ⋯ ⋯ d n #v[q])
def tJ(wi:TI)(g:TG)(tb:TS):TS:=λD σ H=>wi σ H λJ H1=>∃W:Nat->Nat->St->Hp->Prop,(∃m,W 0 m σ H1)/\∀i m σ H,W i m σ H->
 (J.stop i H/\D.nx σ H)\/(J.go i H/\∃N:St->Hp->Prop,(∀S' H',N S' H'->∃m',m'<m/\W (i+1) m' S' H')/\∀x H',J.lF i H x H'->g x σ H' λσ2 H2=>tb {D with nx:=N,ct:=N,bk:=D.nx} σ2 H2)
noncomputable def hV(fp:L7)(h:Heap):Ny:=fp.filterMap λb=>(h.get? b).map λo=>(b,o)
def yc(a:b∈fp)(e:h.get? b=some o):(b,o)∈hV fp h:=List.mem_filterMap.mpr ⟨b,a,by rw[e];rfl⟩
def Fb(d:p∈hV fp h):p.1∈fp/\h.get? p.1=some p.2:=by
 let⟨b,c,e⟩:=List.mem_filterMap.mp d;cases q:h.get? b with
 | none=>rw[q]at e;cases e
 | some o=>
  rw[q]at e;have a:(b,o)=p:=vL e;subst a;exact⟨c,q⟩
def Inv.pinned{f:St}{H:Hp}(I:Inv X pins f H s)(j:∀b∈fp,fw X pins H b)(k:∀b∈fp,∃o,s.heap.get? b=some o/\∀v,o.data≠.cell v):Inv X (pins++hV fp s.heap) f H s:=
 I.pins_of λp l=>(vh.mp l).elim (λz=>I.pin p (mem_append_right _ z)) λz=>by
  let⟨c,e⟩:=Fb z;let⟨g,h,i,q⟩:=j p.1 c;let⟨o,a,d⟩:=k p.1 c;rw[e]at a;cases a;exact⟨e,g,h,i,d⟩
def Inv.iC{a:St}{H:Hp}(I:Inv X (pins++pl) a H s):Inv X pins a H s:=I.pins_of λp b=>I.pin p (mem_append_right _ (mem_append_left _ b))
def j7{q:Expr}{A:List Stmt}{wi:TI}{g:TG}{tb:TS}{Y:Pos}(G:PassesOwn (model X.prog X.w) X.A X.env X.xe)(hc:X.calm=true)(hi:PI X tg q wi)(hg:PG X tg g)(p:lS X A tb)
  (hs:∀x,foldedSetIterable q X.env x=pure x:=by intro _;rfl):PS X (.For tg q A [] Y) (tJ wi g tb):=by
 intro a s σ H D I h;refine wpAny_For (cv (hi a s σ H _ I h) λv s1 h1=>cv h1 λa2 s2 h2=>?_) hs;let⟨it,E,tn,J,H2,e,I2,T,a0,f2,W,⟨m0,w0⟩,P⟩:=h2;subst e;have t:∀{z:Hp},(∀b∈E,z b=none)->∀b∈E,fw X a z b:=λhn b p=>⟨hn b p,(f2 b p).2⟩
 refine codeAny_forLoop_any (λn s'=>∃i w z,Inv X a w z s'/\tn i s'.heap/\(∀b∈E,z b=none)/\W i n w z) ?_ m0 ⟨0,σ,H2,I2,a0,λb p=>(f2 b p).1,w0⟩;rintro n s3 ⟨i,y,Q,I3,L,F,w3⟩;rcases P i n y Q w3 with⟨O,qn⟩ | ⟨go,N,hN,M⟩
 .refine wpAny_passesOwn G (cv (T.done X rfl rfl rfl hc i a s3 y Q X.xe I3 (t F) L O) λr s4 ⟨U,I4⟩=>?_);subst U;exact wpAny_execs_nil ⟨y,Q,I4,qn⟩
 .refine wpAny_passesOwn G (cv (T.item X rfl rfl rfl hc i a s3 y Q X.xe I3 (t F) L go) λr s4 ⟨u,U,h4⟩=>?_);subst U;refine wpAny_passesOwn G (cv h4 λ_ s5 z_=>?_);obtain⟨x,H5,I5,r5,y5,C,S⟩:=z_;have R:=I5.pinned (t S) (T.obj _ _ C);refine wpAny_passesOwn G (cv (hg _ s5 y H5 x u _ R r5 (M x H5 y5)) λ_ s6 z_=>?_);obtain⟨a1,H6,I6,q6⟩:=z_;refine wpAny_passesOwn G (cv (p _ s6 a1 H6 _ I6 q6) λf Z B=>?_);have l:∀{c:St} {j:Hp},Inv X (a++hV E s5.heap) c j Z->N c j->∃m,m<n/\∃i w z,Inv X a w z Z/\tn i Z.heap/\(∀b∈E,z b=none)/\W i m w z:=λ{c j} k K=>by
   let⟨m',hm,w7⟩:=hN c j K;refine⟨m',hm,i+1,c,j,k.iC,T.keep _ _ _ C λb p o e=>(k.pin (b,o) (mem_append_right _ (mem_append_right _ (yc p e)))).1,λb p=>?_,w7⟩;let⟨o,e,d⟩:=T.obj _ _ C b p;exact(k.pin (b,o) (mem_append_right _ (mem_append_right _ (yc p e)))).2.1
  cases f with
  | next=>let⟨c,j,k,K⟩:=B;exact l k K
  | cont=>let⟨c,j,k,K⟩:=B;exact l k K
  | brk=>let⟨c,j,k,B⟩:=B;exact⟨c,j,k.iC,B⟩
  | ret v=>let⟨x7,c,j,k,r7,B⟩:=B;exact⟨x7,c,j,k.iC,r7,B⟩
end
def Jw{K:cg}{a:Addr}{xs:N2}{g:TG}{j:TS}{D:Ends}{b:St}{H:Hp}(c:Nat->St->Hp->Prop)(k:c 0 b H)(o:∀i b H,i<=⇑xs->c i b H->bK K H a xs)
  (r:∀i x b H,xs[i]?=some x->c i b H->g x b H λd H2=>j {D with nx:=c (i+1),ct:=c (i+1),bk:=D.nx} d H2) (l:∀b H,c ⇑xs b H->D.nx b H) :
  ∃W:Nat->Nat->St->Hp->Prop,(∃m,W 0 m b H)/\∀i m b H,W i m b H->
   ((oh K a).stop i H/\D.nx b H)\/((oh K a).go i H/\∃N:St->Hp->Prop,(∀S' H',N S' H'->∃h,h<m/\W (i+1) h S' H')/\∀x H',(oh K a).lF i H x H'->g x b H' λd H2=>j {D with nx:=N,ct:=N,bk:=D.nx} d H2):=by
 refine⟨λi m b H=>m=⇑xs-i/\i<=⇑xs/\c i b H,⟨⇑xs,by simp,va _,k⟩,?_⟩;rintro i m b H ⟨rfl,n,p⟩;have q:=o i b H n p;by_cases f:i<⇑xs
 .refine .inr ⟨⟨xs,xs[i],q,by simp[f]⟩,c (i+1),λS' H' s=>⟨⇑xs-(i+1),⋯,rfl,f,s⟩,λx H' y=>?_⟩;let⟨e,y⟩:=y;subst e;exact r i x b _ (y xs q) p
 .have e:i=⇑xs:=⋯
  subst e;exact .inl ⟨⟨xs,q,vb _⟩,l b H p⟩
def Iv{K:cg}{a:Addr}{xs:N2}{g:TG}{j:TS}{D:Ends}{b:St}{H:Hp}(c:Nat->St->Hp->Prop)(k:c 0 b H)(o:∀i b H,i<=⇑xs->c i b H->bV K H a xs)
  (r:∀i x b H,xs[i]?=some x->c i b H->g x b H λd H2=>j {D with nx:=c (i+1),ct:=c (i+1),bk:=D.nx} d H2) (l:∀b H,c ⇑xs b H->D.nx b H) :
  ∃W:Nat->Nat->St->Hp->Prop,(∃m,W 0 m b H)/\∀i m b H,W i m b H->
   ((oi K a).stop i H/\D.nx b H)\/((oi K a).go i H/\∃N:St->Hp->Prop,(∀S' H',N S' H'->∃h,h<m/\W (i+1) h S' H')/\∀x H',(oi K a).lF i H x H'->g x b H' λd H2=>j {D with nx:=N,ct:=N,bk:=D.nx} d H2):=by
 refine⟨λi m b H=>m=⇑xs-i/\i<=⇑xs/\c i b H,⟨⇑xs,by simp,va _,k⟩,?_⟩;rintro i m b H ⟨rfl,n,p⟩;have q:=o i b H n p;by_cases f:i<⇑xs
 .refine .inr ⟨⟨xs,xs[i],q,by simp[f]⟩,c (i+1),λS' H' s=>⟨⇑xs-(i+1),⋯,rfl,f,s⟩,λx H' y=>?_⟩;let⟨e,y⟩:=y;subst e;exact r i x b _ (y xs q) p
 .have e:i=⇑xs:=⋯
  subst e;exact .inl ⟨⟨xs,q,vb _⟩,l b H p⟩
def QM{lo:Int}{n:Nat}{g:TG}{h:TS}{D:Ends}{a:St}{H:Hp}(b:Nat->St->Hp->Prop)(j:b 0 a H)
  (l:∀i a H,i<n->b i a H->g (.int (lo+i)) a H λd H2=>h {D with nx:=b (i+1),ct:=b (i+1),bk:=D.nx} d H2) (k:∀a H,b n a H->D.nx a H) :
  ∃W:Nat->Nat->St->Hp->Prop,(∃m,W 0 m a H)/\∀i m a H,W i m a H->
   ((nV lo n).stop i H/\D.nx a H)\/((nV lo n).go i H/\∃N:St->Hp->Prop,(∀S' H',N S' H'->∃f,f<m/\W (i+1) f S' H')/\∀x H',(nV lo n).lF i H x H'->g x a H' λd H2=>h {D with nx:=N,ct:=N,bk:=D.nx} d H2):=by
 refine⟨λi m a H=>m=n-i/\i<=n/\b i a H,⟨n,by simp,va _,j⟩,?_⟩;rintro i m a H ⟨rfl,q,p⟩;by_cases c:i<n
 .refine .inr ⟨c,b (i+1),λS' H' o=>⟨n-(i+1),⋯,rfl,c,o⟩,λx H' y=>?_⟩;let⟨e,y⟩:=y;subst e y;exact l i a _ c p
 .have e:i=n:=⋯
  subst e;exact .inl ⟨vb _,k a H p⟩
noncomputable abbrev R2:=V->V->Hp->VK->Prop
def fA(X:Cx)(f:Value->Value->Sem Value)(r:R2):Prop:=
 ∀(pins:Ny) (s:Shared) (σ:St) (H:Hp) (x y:V) (v u:Value) (Q:VK),Inv X pins σ H s->RelV x v->RelV y u->r x y H Q->
  wpAny (model X.prog X.w) X.A (f v u) (EP X pins σ Q) X.xe s
def uU(X:Cx)(f:Value->Sem Value)(r:V->Hp->VK->Prop):Prop:=
 ∀(pins:Ny) (s:Shared) (σ:St) (H:Hp) (x:V) (v:Value) (Q:VK),Inv X pins σ H s->RelV x v->r x H Q->
  wpAny (model X.prog X.w) X.A (f v) (EP X pins σ Q) X.xe s
def cV(X:Cx)(f:Value)(r:N2->Hp->VK->Prop):Prop:=
 ∀(pins:Ny) (s:Shared) (σ:St) (H:Hp) (xs:N2) (us:L9) (Q:VK),Inv X pins σ H s->Vals xs us->r xs H Q->
  wpAny (model X.prog X.w) X.A (call f us) (EP X pins σ Q) X.xe s
def uT(X:Cx)(r:V->Hp->(Bool->Hp->Prop)->Prop):Prop:=
 ∀(pins:Ny) (s:Shared) (σ:St) (H:Hp) (x:V) (v:Value) (Q:Bool->Hp->Prop),Inv X pins σ H s->RelV x v->r x H Q->
  wpAny (model X.prog X.w) X.A (truthy v) (TP X pins σ Q) X.xe s
def tM(r:R2)(ta tb:TE):TE:=λσ H Q=>ta σ H λx H1=>tb σ H1 λy H2=>r x y H2 Q
def D4(r:V->Hp->VK->Prop)(ta:TE):TE:=λσ H Q=>ta σ H λx H1=>r x H1 Q
def rI(C:Int->Int->Prop)(g:Int->Int->V):R2:=λx y H Q=>∃i j,x = .int i/\y = .int j/\C i j/\Q (g i j) H
def oG(g:Int->Int->V):R2:=λx y H Q=>∃i j,x = .int i/\y = .int j/\Q (g i j) H
noncomputable def rU(g:Int->V):V->Hp->VK->Prop:=λx H Q=>∃i,x = .int i/\Q (g i) H
section
variable{X:Cx}{a b c:Expr}{ta tb tc:TE}{pos:Pos}
def qi(k:PE X a ta)(l:PE X b tb){c:St}{H:Hp}{R:V->V->Hp->Prop}(I:Inv X pins c H s)
  (h:ta c H λx H1=>tb c H1 λy H2=>R x y H2) {Q:Nz} {f:Value->Value->Sem Value}
  (m:∀v u g x y H2,Inv X pins c H2 g->RelV x v->RelV y u->R x y H2->wpAny (model X.prog X.w) X.A (f v u) Q X.xe g) :
  wpAny (model X.prog X.w) X.A (eval a X.env) (λv d=>wpAny (model X.prog X.w) X.A (eval b X.env) (λu e=>wpAny (model X.prog X.w) X.A (f v u) Q X.xe e) X.xe d) X.xe s:=by
 refine cv (k pins s c H _ I h) λv r z_=>?_;obtain⟨x,H1,i,p,n⟩:=z_
 refine cv (l pins r c H1 _ i n) λu g z_=>?_;obtain⟨y,H2,j,q,o⟩:=z_
 exact m v u g x y H2 j p q o
def jr(i:fA X (binaryOp op) r)(f:PE X a ta)(g:PE X b tb):PE X (.BinOp a op b pos) (tM r ta tb):=by
 intro c s m H Q I h;exact wpAny_BinOp (qi f g I h λv u l x y d e j k q=>i c l m d x y v u Q e j k q)
def qG{r:V->Hp->VK->Prop}(g:uU X (unaryOp op) r)(f:PE X a ta):PE X (.UnaryOp op a pos) (D4 r ta):=by
 intro b s c H Q I h;refine UnaryOp_ (cv (f b s c H _ I h) λv k z_=>?_);let⟨x,d,e,j,i⟩:=z_;exact g b k c d x v Q e j i
def uF{f:Value->Value->Sem Value}{C:Int->Int->Prop}{g:Int->Int->Int}
  (a:∀(i j:Int) (t u:Tok) (s:Shared) (Q:Nz) (E:Nz),C i j->Q (.int (g i j) s.toks) {s with toks:=s.toks+1}->wpAny (model X.prog X.w) X.A (f (.int i t) (.int j u)) Q E s) :
  fA X f (rI C λi j=>.int (g i j)):=by
 intro b s l H x y v u Q I d e h;let⟨i,j,rfl,rfl,c,q⟩:=h;let⟨t,rfl⟩:=d;let⟨k,rfl⟩:=e;exact a i j t k s _ _ c ⟨.int (g i j),H,I.tok _,⟨_,rfl⟩,q⟩
def sT{f:Value->Value->Sem Value}{g:Int->Int->Int}
  (a:∀(i j:Int) (t u:Tok) (s:Shared) (Q:Nz) (E:Nz),Q (.int (g i j) s.toks) {s with toks:=s.toks+1}->wpAny (model X.prog X.w) X.A (f (.int i t) (.int j u)) Q E s) :
  fA X f (oG λi j=>.int (g i j)):=by
 intro b s k H x y v u Q I c d h;let⟨i,j,rfl,rfl,q⟩:=h;let⟨t,rfl⟩:=c;let⟨e,rfl⟩:=d;exact a i j t e s _ _ ⟨.int (g i j),H,I.tok _,⟨_,rfl⟩,q⟩
def oA{f:Value->Value->Sem Value}{g:Int->Int->Bool}
  (a:∀(i j:Int) (t u:Tok) (s:Shared) (Q:Nz) (E:Nz),Q (.bool (g i j)) s->wpAny (model X.prog X.w) X.A (f (.int i t) (.int j u)) Q E s) :
  fA X f (oG λi j=>.bl (g i j)):=by
 intro b s k H x y v u Q I c d h;let⟨i,j,rfl,rfl,q⟩:=h;let⟨t,rfl⟩:=c;let⟨e,rfl⟩:=d;exact a i j t e s _ _ ⟨.bl (g i j),H,I,rfl,q⟩
def my(i j:Int):Prop:=0<=j/\j<=1000000/\i.natAbs<2^64
def jQ:fA X (binaryOp .Add) (oG λi j=>.int (i+j)):=sT λZ Z Z Z Z Z Z q=>add_int q
def JZ:fA X (binaryOp .Sub) (oG λi j=>.int (i-j)):=sT λZ Z Z Z Z Z Z q=>sub_int q
def j6:fA X (binaryOp .Mod) (rI (λZ j=>0<j) λi j=>.int (i%j)):=uF λi j Z Z Z Z Z a q=>by
 have b:(0:Int)<j:=a;exact mod_int' ⋯ (by rw[Int.fmod_eq_emod_of_nonneg i ⋯];exact q)
def QN:fA X (binaryOp .Pow) (rI my λi j=>.int (i^j.toNat)):=uF λZ Z Z Z Z Z Z a q=>pow_int_small a.1 a.2.1 a.2.2 q
def Mm{f:Value->Sem Value}{g:Int->Int}
  (a:∀(i:Int) (t:Tok) (s:Shared) (Q:Nz) (E:Nz),Q (.int (g i) s.toks) {s with toks:=s.toks+1}->wpAny (model X.prog X.w) X.A (f (.int i t)) Q E s) :
  uU X f (rU λi=>.int (g i)):=by
 intro b s d H x v Q I c h;let⟨i,rfl,q⟩:=h;let⟨t,rfl⟩:=c;exact a i t s _ _ ⟨.int (g i),H,I.tok _,⟨_,rfl⟩,q⟩
def JI:uU X (unaryOp .USub) (rU λi=>.int (-i)):=Mm λj j j j j q=>neg_int q
end
noncomputable def tj:V->V->Bool
 | .cE,.cE=>true | .cE,.int _=>true | .int _,.cE=>true | .cE,.bl _=>true | .bl _,.cE=>true | .cE,.str _=>true | .str _,.cE=>true
 | .int _,.int _=>true | .bl _,.bl _=>true | .str _,.str _=>true | .lH _,.lH _=>true
 | .int _,.str _=>true | .str _,.int _=>true | .bl _,.str _=>true | .str _,.bl _=>true
 | _,_=>false
def AO:R2:=λx y H Q=>tj x y=true/\Q (.bl (decide (x=y))) H
def AS:R2:=λx y H Q=>tj x y=true/\Q (.bl (!decide (x=y))) H
def Cw:decide (V.int i=V.int j)=(i==j):=by
 rw[Bool.eq_iff_iff];simp
def Dg:decide (V.bl i=V.bl j)=(i==j):=by
 rw[Bool.eq_iff_iff];simp
def Cy:decide (V.str i=V.str j)=(i==j):=by
 rw[Bool.eq_iff_iff];simp
def Cv:decide (V.lH i=V.lH j)=(i.toList==j.toList):=by
 rw[Bool.eq_iff_iff];cases i;cases j;simp
section
variable{X:Cx}{a b c:Expr}{ta tb tc:TE}{pos:Pos}
def Ja{a:St}{H:Hp}(I:Inv X pins a H s)(q:Q (.bl k) H)(e:k=k'):EP X pins a Q (.bool k') s:=by
 subst e;exact⟨.bl k,H,I,rfl,q⟩
def j5:fA X (compareOp .Eq) AO:=by
 intro e s f H x y v u Q I d a h;let⟨c,q⟩:=h;cases x with
 | cE=>
  cases d;cases y with
  | cE=>cases a;exact PySem.EqNone.eq_none_none (Ja I q (by simp))
  | bl j=>cases a;exact PySem.EqNone.eq_none_bool (Ja I q (by simp))
  | int j=>let⟨b,rfl⟩:=a;exact PySem.EqNone.eq_none_int (Ja I q (by simp))
  | str j=>let⟨b,rfl⟩:=a;exact PySem.EqNone.eq_none_str (Ja I q (by simp))
  | _=>exact uf (show false=true from c) vF
 | bl i=>
  cases d;cases y with
  | cE=>cases a;exact PySem.EqNone.eq_bool_none (Ja I q (by simp))
  | bl j=>cases a;exact eq_bool (Ja I q Dg)
  | str j=>let⟨b,rfl⟩:=a;exact PySem.EqMixed.eq_bool_str (Ja I q (by simp))
  | _=>exact uf (show false=true from c) vF
 | int i=>
  let⟨t,rfl⟩:=d;cases y with
  | cE=>cases a;exact PySem.EqNone.eq_int_none (Ja I q (by simp))
  | int j=>let⟨b,rfl⟩:=a;exact eq_int (Ja I q Cw)
  | str j=>let⟨b,rfl⟩:=a;exact PySem.EqMixed.eq_int_str (Ja I q (by simp))
  | _=>exact uf (show false=true from c) vF
 | str i=>
  let⟨t,rfl⟩:=d;cases y with
  | cE=>cases a;exact PySem.EqNone.eq_str_none (Ja I q (by simp))
  | bl j=>cases a;exact PySem.EqMixed.eq_str_bool (Ja I q (by simp))
  | int j=>let⟨b,rfl⟩:=a;exact PySem.EqMixed.eq_str_int (Ja I q (by simp))
  | str j=>let⟨b,rfl⟩:=a;exact eq_str (Ja I q Cy)
  | _=>exact uf (show false=true from c) vF
 | lH i=>
  let⟨t,rfl⟩:=d;cases y with
  | lH j=>let⟨b,rfl⟩:=a;exact PySem.W.eq_bytes (Ja I q Cv)
  | _=>exact uf (show false=true from c) vF
 | _=>cases y<;>exact uf (show false=true from c) vF
def yF:fA X (compareOp .NotEq) AS:=by
 intro e s f H x y v u Q I d a h;let⟨c,q⟩:=h;cases x with
 | cE=>
  cases d;cases y with
  | cE=>cases a;exact PySem.EqNone.ne_none_none (Ja I q (by simp))
  | bl j=>cases a;exact PySem.EqNone.ne_none_bool (Ja I q (by simp))
  | int j=>let⟨b,rfl⟩:=a;exact PySem.EqNone.ne_none_int (Ja I q (by simp))
  | str j=>let⟨b,rfl⟩:=a;exact PySem.EqNone.ne_none_str (Ja I q (by simp))
  | _=>exact uf (show false=true from c) vF
 | bl i=>
  cases d;cases y with
  | cE=>cases a;exact PySem.EqNone.ne_bool_none (Ja I q (by simp))
  | bl j=>cases a;exact ne_bool (Ja I q (congrArg not Dg))
  | str j=>let⟨b,rfl⟩:=a;exact PySem.EqMixed.ne_bool_str (Ja I q (by simp))
  | _=>exact uf (show false=true from c) vF
 | int i=>
  let⟨t,rfl⟩:=d;cases y with
  | cE=>cases a;exact PySem.EqNone.ne_int_none (Ja I q (by simp))
  | int j=>let⟨b,rfl⟩:=a;exact ne_int (Ja I q (congrArg not Cw))
  | str j=>let⟨b,rfl⟩:=a;exact PySem.EqMixed.ne_int_str (Ja I q (by simp))
  | _=>exact uf (show false=true from c) vF
 | str i=>
  let⟨t,rfl⟩:=d;cases y with
  | cE=>cases a;exact PySem.EqNone.ne_str_none (Ja I q (by simp))
  | bl j=>cases a;exact PySem.EqMixed.ne_str_bool (Ja I q (by simp))
  | int j=>let⟨b,rfl⟩:=a;exact PySem.EqMixed.ne_str_int (Ja I q (by simp))
  | str j=>let⟨b,rfl⟩:=a;exact ne_str (Ja I q (congrArg not Cy))
  | _=>exact uf (show false=true from c) vF
 | lH i=>
  let⟨t,rfl⟩:=d;cases y with
  | lH j=>let⟨b,rfl⟩:=a;exact PySem.W.ne_bytes (Ja I q (congrArg not Cv))
  | _=>exact uf (show false=true from c) vF
 | _=>cases y<;>exact uf (show false=true from c) vF
def Zj:fA X (compareOp .Lt) (oG λi j=>.bl (decide (i<j))):=oA λZ Z Z Z Z Z Z q=>lt_int q
def xy:fA X (compareOp .LtE) (oG λi j=>.bl (decide (i<=j))):=oA λZ Z Z Z Z Z Z q=>le_int q
def yE:fA X (compareOp .Gt) (oG λi j=>.bl (decide (j<i))):=oA λZ Z Z Z Z Z Z q=>gt_int q
def sE:fA X (compareOp .GtE) (oG λi j=>.bl (decide (j<=i))):=oA λZ Z Z Z Z Z Z q=>ge_int q
def DF:fA X (compareOp .Is) (λx y H Q=>y = .cE/\Q (.bl (decide (x = .cE))) H):=by
 intro a s d H x y v u Q I b c h;let⟨rfl,q⟩:=h;cases c;refine is_none_gen (Ja I q ?_);cases x<;>first
  | (cases b;rfl)
  | (let⟨t,rfl⟩:=b;rfl)
def B6:fA X (compareOp .IsNot) (λx y H Q=>y = .cE/\Q (.bl (!decide (x = .cE))) H):=by
 intro a s d H x y v u Q I b c h;let⟨rfl,q⟩:=h;cases c;refine isnot_none_gen (Ja I q ?_);cases x<;>first
  | (cases b;rfl)
  | (let⟨t,rfl⟩:=b;rfl)
def bH(b:Expr)(h:op≠.In:=by decide)(d:op≠.NotIn:=by decide):behindInMarks op b=false:=by
 have a:(op==CmpOp.In)=false:=⋯
 have c:(op==CmpOp.NotIn)=false:=⋯
 cases b<;>simp[behindInMarks,a,c]
def B7(j:fA X (compareOp op) r)(f:PE X a ta)(g:PE X b tb)(i:behindInMarks op b=false):PE X (.Compare a [op] [b] pos) (tM r ta tb):=by
 intro c s n H Q I h;exact wpAny_Compare1 (qi f g I h λv u m x y d e k l q=>j c m n d x y v u Q e k l q) i
def nU(t:TE):TT:=λσ H Q=>t σ H λx H'=>∃k,x = .bl k/\Q k H'
def jp(t:fA X (compareOp op) r)(o:PE X a ta)(p:PE X b tb)(q:behindInMarks op b=false):PT X (.Compare a [op] [b] pos) (nU (tM r ta tb)):=by
 intro d s f H Q I h;refine wpAny_isTrue_Compare1 (cv (o d s f H _ I h) λv F ⟨x,g,l,C,w⟩=>cv (p d F f g _ l w) λu G ⟨y,i,m,D,A⟩=>
  cv (t d G f i x y v u _ m C D A) λc J ⟨z,j,n,E,k,e,B⟩=>?_) q
 subst e;cases E;exact wpAny_truthy_bool ⟨j,n,B⟩
def nO(r r':R2)(ta tb tc:TE):TE:=λσ H Q=>ta σ H λx H1=>tb σ H1 λy H2=>r x y H2 λz H3=>∃k,z = .bl k/\
 (if k=true then tc σ H3 λw' H4=>r' y w' H4 Q else Q (.bl false) H3)
def Bn(L:fA X (compareOp op) r)(i:fA X (compareOp op') r')(F:PE X a ta)(G:PE X b tb)(J:PE X c tc)
  (K:lastMarks [op,op'] [b,c]=false:=by with_unfolding_all rfl):PT X (.Compare a [op,op'] [b,c] pos) (nU (nO r r' ta tb tc)):=by
 intro f s g H Q I h;refine isTrue_chain (cv (F f s g H _ I h) λv Y ⟨x,o,w,S,N⟩=>test_link (cv (G f Y g o _ w N) λu Z ⟨y,p,A,n,O⟩=>
  cv (L f Z g p x y v u _ A S n O) λd s3 ⟨z,j,l,T,k,e,m⟩=>?_)) K
 subst e;cases T;refine wpAny_truthy_bool ?_;cases k with
 | false=>
  let⟨k',D,M⟩:=m;cases D;exact ite_ff ⟨j,l,M⟩
 | true=>
  refine ite_tt (test_last (cv (J f s3 g j _ l m) λw' s4 z_=>?_));let⟨z',q,B,U,P⟩:=z_;refine cv (i f s4 g q y z' u w' _ B n U P) λd' s5 z_=>?_;obtain⟨z2,t,C,W,k2,E,R⟩:=z_;subst E;cases W;exact wpAny_truthy_bool ⟨t,C,R⟩
def ou(K:cg)(x:V)(H:Hp)(k:Bool):Prop:=
 match x with
 | .cE=>k=false
 | .bl b=>k=b
 | .int i=>k=(i != 0)
 | .str y=>⇑y<=sizeLine/\k=((⇑y:Int) != 0)
 | .lH y=>y.size<=sizeLine/\k=((y.size:Int) != 0)
 | .ref p=>(∃xs,bK K H p xs/\k = !xs.isEmpty)\/(∃xs,bV K H p xs/\k = !xs.isEmpty)\/∃kvs,H p=some (.dK kvs)/\k = !kvs.isEmpty
 | _=>False
def ET{κ:Type}{kvs:List (κ×V)}{vs:List (κ×Value)}(r:KV kvs vs):(!vs.isEmpty) = !kvs.isEmpty:=by
 cases r<;>rfl
def w4{xs:N2}{a:L9}(r:Vals xs a):(!a.toArray.isEmpty) = !xs.isEmpty:=by
 cases r<;>simp
def gu:(sizeLine:Nat)<2^63:=by rw[sizeLine_eq];decide
def LP:uT X (λx H Q=>∃k,ou X.K x H k/\Q k H):=by
 intro w s D H x v Q I g h;let⟨k,e,q⟩:=h;have B:=gu;have C:sizeLine=16777216:=sizeLine_eq;cases x with
 | cE=>
  cases g;have a:k=false:=e;subst a;exact truthy_none ⟨H,I,q⟩
 | bl b=>
  cases g;have a:k=b:=e;subst a;exact wpAny_truthy_bool ⟨H,I,q⟩
 | int i=>
  let⟨t,rfl⟩:=g;have a:k=(i != 0):=e;subst a;exact PySem.P.truthy_int ⟨H,I,q⟩
 | str y=>
  let⟨t,rfl⟩:=g;obtain⟨A,a⟩:⇑y<=sizeLine/\k=((⇑y:Int) != 0):=e;subst a;exact PySem.P.truthy_str ⋯ ⟨H,I.tok _,q⟩
 | lH y=>
  let⟨t,rfl⟩:=g;obtain⟨A,a⟩:y.size<=sizeLine/\k=((y.size:Int) != 0):=e;subst a;exact PySem.W.truthy_bytes ⋯ ⟨H,I.tok _,q⟩
 | ref p=>
  cases g;have a:(∃f,bK X.K H p f/\k = !f.isEmpty)\/(∃f,bV X.K H p f/\k = !f.isEmpty)\/∃c,H p=some (.dK c)/\k = !c.isEmpty:=e;rcases a with⟨f,j,a⟩ | ⟨f,j,a⟩ | ⟨c,j,a⟩
  .subst a;let⟨n,r,o,u⟩:=I.list j;have d:=⇑r;exact wpAny_truthy_list o.isList (by simp only[size_toArray];lia) ⟨H,I.tok _,by rw[w4 r];exact q⟩
  .subst a;let⟨n,r,o,u⟩:=I.tuple j;have d:=⇑r;exact truthy_tuple o (by simp only[size_toArray];lia) ⟨H,I.tok _,by rw[w4 r];exact q⟩
  .subst a;obtain⟨u,z,l,r,m⟩:⇑c<=sizeLine/\(p==sysModules)=false/\∃l,KV c l/\s.heap.DictOf (bR X.prog X.w) p l:=I.cw p _ j;have d:⇑c=⇑l:=Paired.length r;exact wpAny_truthy_dict z m ⋯ ⟨H,I.tok _,by rw[ET r];exact q⟩
 | _=>exact(show False from e).elim
def Hm(f:PE X a ta)(g:∀b,isTrue a X.env b=(do let v <-b;standAt a.pos;holding [v] (truthy v))) :
  PT X a (λσ H Q=>ta σ H λx H'=>∃k,ou X.K x H' k/\Q k H'):=by
 intro c s σ H Q I h;refine isTrue_plain (cv (f c s σ H _ I h) λv l z_=>?_) (g _);let⟨x,d,e,j,i⟩:=z_;exact LP c l σ d x v Q e j i
def yf:fA X (binaryOp .Add) (λx y H Q=>∃i j,x = .str i/\y = .str j/\⇑i+⇑j<=sizeLine/\Q (.str (i++j)) H):=by
 intro a s g H x y v u Q I c d h;let⟨i,j,rfl,rfl,b,q⟩:=h;let⟨t,rfl⟩:=c;let⟨e,rfl⟩:=d;exact add_str (λe f=>⟨.str (i++j),H,I.tok _,⟨_,rfl⟩,q⟩) b
def vals1(r:Vals [x] us):∃u,us=[u]/\RelV x u:=by
 cases r with
 | cons r1 r2=>cases r2;exact⟨_,rfl,r1⟩
def vals2(r:Vals [x,y] us):∃u a,us=[u,a]/\RelV x u/\RelV y a:=by
 cases r with
 | cons r1 r2=>
  cases r2 with
  | cons r3 r4=>cases r4;exact⟨_,_,rfl,r1,r3⟩
def wF:cV X (.builtin "abs") (λxs H Q=>∃i,xs=[.int i]/\Q (.int (if i<0 then -i else i)) H):=by
 intro a s d H xs c Q I r h;let⟨i,rfl,q⟩:=h;let⟨u,rfl,t,rfl⟩:=vals1 r;exact call_abs_int λu b=>⟨.int (if i<0 then -i else i),H,I.tok _,⟨_,rfl⟩,q⟩
def FG(c:X.calm=true):cV X (.builtin "max") (λxs H Q=>∃i j,xs=[.int i,.int j]/\Q (.int (if j>i then j else i)) H):=by
 intro b s m H xs g Q I r h;let⟨i,j,rfl,q⟩:=h;let⟨u,l,rfl,⟨t,rfl⟩,⟨e,rfl⟩⟩:=vals2 r;refine max_two_ints (I.ok.hd c) λd f k=>⟨_,H,I.kept k,?_,q⟩
 by_cases a:j>i
 .rw[vd a,vd a];exact⟨_,rfl⟩
 .rw[vc a,vc a];exact⟨_,rfl⟩
def YB(c:X.calm=true):cV X (.builtin "min") (λxs H Q=>∃i j,xs=[.int i,.int j]/\Q (.int (if j<i then j else i)) H):=by
 intro b s m H xs g Q I r h;let⟨i,j,rfl,q⟩:=h;let⟨u,l,rfl,⟨t,rfl⟩,⟨e,rfl⟩⟩:=vals2 r;refine min_two_ints (I.ok.hd c) λd f k=>⟨_,H,I.kept k,?_,q⟩
 by_cases a:j<i
 .rw[vd a,vd a];exact⟨_,rfl⟩
 .rw[vc a,vc a];exact⟨_,rfl⟩
def FD:cV X (.type "int") (λxs H Q=>(∃i,xs=[.int i]/\Q (.int i) H)\/∃k,xs=[.bl k]/\Q (.int (if k then 1 else 0)) H):=by
 intro a s d H xs c Q I r h;rcases h with⟨i,rfl,q⟩ | ⟨k,rfl,q⟩
 .let⟨u,rfl,t,rfl⟩:=vals1 r;exact call_int_int ⟨.int i,H,I,⟨_,rfl⟩,q⟩
 .let⟨u,rfl,b⟩:=vals1 r;cases b;exact call_int_bool ⟨.int (if k then 1 else 0),H,I.tok _,⟨_,rfl⟩,q⟩
def rW(K:cg)(x:V)(H:Hp)(n:Nat):Prop:=
 match x with
 | .str y=>⇑y<=sizeLine/\n=⇑y
 | .lH y=>y.size<=sizeLine/\n=y.size
 | .ref p=>(∃xs,bK K H p xs/\n=⇑xs)\/∃xs,bV K H p xs/\n=⇑xs
 | _=>False
def jI:cV X (.builtin "len") (λxs H Q=>∃x n,xs=[x]/\rW X.K x H n/\Q (.int n) H):=by
 intro j s w H xs v Q I r h;let⟨x,n,rfl,e,q⟩:=h;let⟨u,rfl,i⟩:=vals1 r;have m:=gu;have o:sizeLine=16777216:=sizeLine_eq;cases x with
 | str y=>
  let⟨t,rfl⟩:=i;obtain⟨k,b⟩:⇑y<=sizeLine/\n=⇑y:=e;subst b;exact len_str ⋯ ⟨.int _,H,I.tok _,⟨_,rfl⟩,q⟩
 | lH y=>
  let⟨t,rfl⟩:=i;obtain⟨k,b⟩:y.size<=sizeLine/\n=y.size:=e;subst b;exact PySem.W.len_bytes ⋯ ⟨.int _,H,I.tok _,⟨_,rfl⟩,q⟩
 | ref p=>
  cases i;have b:(∃xs,bK X.K H p xs/\n=⇑xs)\/∃xs,bV X.K H p xs/\n=⇑xs:=e;rcases b with⟨xs,c,b⟩ | ⟨xs,c,b⟩
  .subst b;let⟨d,g,f,l⟩:=I.list c;have a:=⇑g;exact Calls.call_len_list f.isList (by simp only[size_toArray];lia) ⟨.int ⇑xs,H,I.tok _,⟨_,by simp only[size_toArray];rw[a]⟩,q⟩
  .subst b;let⟨d,g,f,l⟩:=I.tuple c;have a:=⇑g;exact len_tuple f (by simp only[size_toArray];lia) ⟨.int ⇑xs,H,I.tok _,⟨_,by simp only[size_toArray];rw[a]⟩,q⟩
 | _=>exact(show False from e).elim
end
structure lR(h:Heap)(x dx C:Addr)(mA:Nw):Prop where
 obj:h.get? x=some (PySem.W.instObj C dx)
 ns:h.Ns1 dx mA
 ne:dx≠x
def FZ{h:Heap}{c:Addr}{d:Nw}(n:h.Ns1 c d):∃f,h.get? c=some f/\∀name,PySem.W.lookIn name f=some (d name):=by
 let⟨o,g,p,l,i,j,Z,k⟩:=n;refine⟨o,l,λname=>?_⟩;have e:=k name;unfold nsFind findBy at e;rw[<-Array.find?_toList]at e;unfold PySem.W.lookIn;rw[i];dsimp only;split
 .simp_all
 .rename_i q;rw[q]at e;have a:g.toList.any (·.refKey)=false:=by
   rw[List.any_eq_false];intro y m;let⟨z,t,b⟩:=j y (Array.mem_toList_iff.mp m);simp[DictEntry.refKey,b]
  simp_all
def lR.look{b:Nw}(I:lR h x dx C b):∃a,PySem.W.InstAt h x (PySem.W.instObj C dx) C (some a)/\∀name,PySem.W.lookIn name a=some (b name):=
 let ⟨a,ho,hl⟩:=FZ I.ns
 ⟨a,⟨I.obj,rfl,rfl,ho⟩,hl⟩
section
variable{prog:Program}{w:World}{A:Around}{E:Nz}{s:Shared}{K:cg}{x dx C f:Addr}{mA:Nw}{name:Str}{v:Value}
def Iw{Q:Nz}(X:K.In s.heap)(I:lR s.heap x dx C mA)(c:PySem.W.plainGet K C name=true)(d:PySem.W.hasDictIn K C=true)
  (b:PySem.W.findIn K (.ref C) name=some none) (f:mA name=some v) (a:PySem.W.handedIn v=true) (h:Q v {s with toks:=s.toks+1}) :
  wpAny (model prog w) A (getAttr (.ref x) name expr) Q E s:=by
 let⟨g,J,e⟩:=I.look;exact PySem.W.get_value X J (PySem.W.plainGet_of c).1 (PySem.W.findObj_own d b rfl (by rw[e,f])) a h
def Gj{Q:Value×L9->Shared->Prop}(X:K.In s.heap)(I:lR s.heap x dx C mA)(a:PySem.W.plainGet K C name=true)
  (b:PySem.W.findIn K (.ref C) name=some (↥f)) (d:PySem.W.isFn K (.ref f)=true) (e:mA name=none) (h:Q (.ref f,[.ref x]) s) :
  wpAny (model prog w) A (getMethod (.ref x) name pl) Q E s:=by
 let⟨g,J,c⟩:=I.look;exact PySem.W.method_fn X J (PySem.W.plainGet_of a).1 (PySem.W.plainGet_of a).2 b (beq_iff_eq.mp d) (by show(PySem.W.lookIn name g).map (·.isSome)=some false;rw[c,e];rfl) h
def IJ{Q:Unit->Shared->Prop}(X:K.In s.heap)(I:lR s.heap x dx C mA)
  (o:PySem.W.findIn K (.ref C) "__setattr__"= some (some (.builtin "object.__setattr__"))) (n:PySem.W.plainOver K C=true) (p:PySem.W.takerIn K C name=some none) (m:PySem.W.hasDictIn K C=true)
  (hw:PySem.Within mA ns) (hsz:⇑ns<=sizeLine)
  (h:∀h',lR h' x dx C (λy=>if y=name then some v else mA y)->Heap.SameBut dx s.heap h'->Q () {s with heap:=h',toks:=s.toks+2}) :
  wpAny (model prog w) A (setAttr (.ref x) name v) Q E s:=by
 let⟨B,J,u⟩:=I.look;refine PySem.W.set_plain X J o (PySem.W.osa_open (s:={s with toks:=s.toks+1}) (r:=none) X J n p λb=>?_);let⟨t,l,f⟩:=PySem.W.any_some m;have q:s.heap.get? x=some ⟨.ref C,some dx,.plain,#[]⟩:=I.obj;refine uh (ug (uh (uh (wpAny_loadPart q (uh (PySem.W.Looks.here (s:={s with toks:=s.toks+1}) (PySem.W.looks_clsIn X l) ?_))))));rw[f];refine ug (a:=some dx) (uh (ug (uh ?_)));refine wpAny_nsSet1 (s:={s with toks:=s.toks+1}) I.ns λh' c d=>?_
 let⟨z,k,j,i,g,e⟩:=c.count (PySem.Within.cons name v hw);refine uh (wpAny_lookBehind i (by rw[g];exact pastItsLine_dict (vW e (by rw[vQ];lia))) ?_);exact ug (h _ ⟨(d.2 _ (Ne.symm I.ne)).trans I.obj,c,I.ne⟩ d)
def Gu{R:Result->Shared->Prop}(X:K.In s.heap)(c:PySem.W.makesIn K C=true)
  (hi:PySem.W.findIn K (.ref C) "__init__"= some (↥f)) (b:PySem.W.typeIn K (.ref f)=some (.type "function"))
  (h:codeAny (model prog w) (A.under (.builtin "type.__call__" ⟨.ref C::vs,kw⟩)) (.call (.ref f) ⟨.ref (s.heap.objs.size+1)::vs,kw⟩) (PySem.W.InitBack (s.heap.objs.size+1) R)
   {s with heap:=(s.heap.push PySem.W.emptyDict).push (PySem.W.instObj C s.heap.objs.size)}) :
  codeAny (model prog w) A (.call (.ref C) ⟨vs,kw⟩) R s:=by
 let⟨e,g,d,t,i⟩:=s;exact PySem.W.make_core (PySem.W.makes_of X c) (PySem.W.looks_findIn X hi) (λa=>PySem.W.bind_fn X a b) (.inl rfl) h
end
noncomputable def cb(f:Str)(v:V):List (Str×V)->List (Str×V)
 | []=>[(f,v)]
 | (g,x)::r=>if g=f then(g,v)::r else(g,x)::cb f v r
theorem Zi(f g:Str)(v:V):∀fs:List (Str×V),(cb f v fs).lookup g=if g=f then some v else fs.lookup g
 | []=>by
  show List.lookup g [(f,v)]=_;by_cases h:g=f
  .have a:(g==f)=true:=beq_iff_eq.mpr h;simp only[List.lookup,a,if_pos h]
  .have a:(g==f)=false:=beq_eq_false_iff_ne.mpr h;simp only[List.lookup,a,if_neg h]
 | (k,x)::r=>by
  have b:=Zi f g v r;rw[show cb f v ((k,x)::r)=(if k=f then(k,v)::r else(k,x)::cb f v r)from rfl]
  grind
theorem KF(f:Str)(v:V):∀fs:List (Str×V),f∈(cb f v fs).map (·.1)/\∀g,g∈fs.map (·.1)->g∈(cb f v fs).map (·.1)
 | []=>⟨by simp[cb],λg h=>by simp at h⟩
 | (k,x)::r=>by
  let⟨a,b⟩:=KF f v r;rw[show cb f v ((k,x)::r)=(if k=f then(k,v)::r else(k,x)::cb f v r)from rfl]
  grind
theorem KY(f:Str)(v:V):∀fs:List (Str×V),⇑(cb f v fs)<=⇑fs+1
 | []=>by simp[cb]
 | (k,x)::r=>by
  have b:=KY f v r;rw[show cb f v ((k,x)::r)=(if k=f then(k,v)::r else(k,x)::cb f v r)from rfl];by_cases a:k=f
  .rw[vd a,vQ,vQ];lia
  .rw[vc a,vQ,vQ];lia
def fy.some_of(r:fy (some v) o):∃u,o=some u/\RelV v u:=by
 cases o with
 | none=>exact(show False from r).elim
 | some u=>exact⟨u,rfl,r⟩
def fy.none_of(r:fy none o):o=none:=by
 cases o with
 | none=>rfl
 | some u=>exact(show False from r).elim
def FP(r:RelV v u):PySem.W.handedIn u=true:=by
 cases v with
 | cE=>cases(show u=Value.none from r);rfl
 | bl b=>cases(show u=Value.bool b from r);rfl
 | int i=>let⟨t,e⟩:=(show∃t,u=Value.int i t from r);cases e;rfl
 | str x=>let⟨t,e⟩:=(show∃t,u=Value.str x t from r);cases e;rfl
 | lH b=>let⟨t,e⟩:=(show∃t,u=Value.bytes b t from r);cases e;rfl
 | qk b=>let⟨t,e⟩:=(show∃t,u=Value.float b t from r);cases e;rfl
 | ref a=>cases(show u=Value.ref a from r);rfl
 | ty n=>cases(show u=Value.type n from r);rfl
section
variable{P:Program}{w:World}{H H':Hp}{h h':Heap}{a C dx:Addr}{fs fs':List (Str×V)}
def wj(b:eN P w H h)(e:H a=some (.ins C dx fs)):∃mA,lR h a dx C mA/\(∀f,fy (fs.lookup f) (mA f))/\PySem.Within mA (fs.map (·.1))/\⇑fs<=1000/\H dx=some (.own a):=by
 let⟨d,z,c,g,mA,n,r,q⟩:=(show cf P w H h a (.ins C dx fs)from b a _ e)
 exact⟨mA,⟨g,n,c⟩,r,q,z,d⟩
end
structure l4(K:cg)(C:Addr):Prop where
 pg:PySem.W.plainGet K C Str.empty=true
 hd:PySem.W.hasDictIn K C=true
 po:PySem.W.plainOver K C=true
 sa:PySem.W.findIn K (.ref C) "__setattr__"= some (some (.builtin "object.__setattr__"))
def l4.get{K:cg}{C:Addr}(c:l4 K C)(f:Str):PySem.W.plainGet K C f=true:=c.pg
def cN(K:cg)(C:Addr)(f:Str):Prop:=PySem.W.findIn K (.ref C) f=some none
def cN.tT{K:cg}{C:Addr}{f:Str}(n:cN K C f):PySem.W.takerIn K C f=some none:=by
 unfold PySem.W.takerIn;rw[show PySem.W.findIn K (.ref C) f=some none from n];rfl
structure Meth(K:cg)(C:Addr)(m:Str)(f:Addr):Prop where
 at_:PySem.W.findIn K (.ref C) m=some (↥f)
 fn:PySem.W.isFn K (.ref f)=true
 kp:PySem.W.keepIn K (.ref f)=true
section
variable{X:Cx}{pins:Ny}{σ:St}{H:Hp}{s:Shared}{a C dx:Addr}{fs:List (Str×V)}{f:Str}{v:V}{A:Around}{E:Nz}
def ER{Q:Nz}(I:Inv X pins σ H s)(e:H a=some (.ins C dx fs))(c:l4 X.K C)(n:cN X.K C f)(l:fs.lookup f=some v)
  (h:∀u s',Inv X pins σ H s'->RelV v u->Q u s'):wpAny (model X.prog X.w) A (getAttr (.ref a) f b) Q E s:=by
 let⟨i,O,r,q,q,q⟩:=wj I.cw e;let⟨u,g,d⟩:=fy.some_of (v:=v) (o:=i f) (by rw[<-l];exact r f);exact Iw I.gQ O (c.get f) c.hd n g (FP d) (h u _ (I.tok _) d)
def wX{Q:Value×L9->Shared->Prop}(I:Inv X pins σ H s)(e:H a=some (.ins C dx fs))(c:l4 X.K C)(k:Meth X.K C m g)(l:fs.lookup m=none)
  (h:Q (.ref g,[.ref a]) s):wpAny (model X.prog X.w) A (getMethod (.ref a) m pl) Q E s:=by
 let⟨d,O,r,q,q,q⟩:=wj I.cw e;have b:d m=none:=fy.none_of (by rw[<-l];exact r m);exact Gj I.gQ O (c.get m) k.at_ k.fn b h
def EU{Q:Unit->Shared->Prop}(I:Inv X pins σ H s)(e:H a=some (.ins C dx fs))(c:l4 X.K C)(n:cN X.K C f)(D:⇑fs<1000)(w:RelV y u)
  (h:∀s',Inv X pins σ (upd H a (.ins C dx (cb f y fs))) s'->Q () s'):wpAny (model X.prog X.w) A (setAttr (.ref a) f u) Q E s:=by
 let⟨v,O,r,j,Z,i⟩:=wj I.cw e;have t:⇑(fs.map (·.1))<=sizeLine:=by rw[vt,sizeLine_eq];lia
 refine IJ I.gQ O c.sa c.po n.tT c.hd j t λk d B=>h _ ?_
 have m:∃o,k.get? dx=some o:=let ⟨o,_,_,e',_⟩:=d.ns;⟨o,e'⟩;refine I.write (x:=a) (e:=dx) (by rw[e];exact True.intro) (.inr i) (λb q l z=>(B.2 b l).trans z) m ?_;refine⟨by rw[jh O.ne];exact i,?_,O.ne,d.obj,_,d.ns,λg=>?_,λg p=>?_⟩
 .have:=KY f y fs;lia
 .show fy ((cb f y fs).lookup g) (if g=f then some u else v g);rw[Zi];by_cases q:g=f
  .rw[vd q,vd q];exact w
  simp_all
 .by_cases q:g=f
  .rw[q];exact(KF f y fs).1
  .refine(KF f y fs).2 g (j g λz=>p ?_)
   lia
def Inv.made(I:Inv X pins σ H s):Inv X pins σ (upd (upd H s.heap.objs.size (.own (s.heap.objs.size+1))) (s.heap.objs.size+1) (.ins C s.heap.objs.size []))
  {s with heap:=(s.heap.push PySem.W.emptyDict).push (PySem.W.instObj C s.heap.objs.size)}:=by
 have c:(s.heap.push PySem.W.emptyDict).get? s.heap.objs.size=some PySem.W.emptyDict:=Heap.get?_push_size s.heap rfl;have g:((s.heap.push PySem.W.emptyDict).push (PySem.W.instObj C s.heap.objs.size)).get? (s.heap.objs.size+1)=some (PySem.W.instObj C s.heap.objs.size):=by
  have:=Heap.get?_push_size (s.heap.push PySem.W.emptyDict) (o:=PySem.W.instObj C s.heap.objs.size) rfl
  rwa [Heap.size_push]at this
 have h:(s.heap.push PySem.W.emptyDict).Ns s.heap.objs.size (λZ=>none):=⟨PySem.W.emptyDict,#[],_,c,rfl,(λe i=>uf i (by simp)),λZ=>rfl⟩
 have f:=I.laid (a:=s.heap.objs.size) (o:=.own (s.heap.objs.size+1)) (h':=s.heap.push PySem.W.emptyDict) (t':=s.toks) (λb u q=>vJ _ q) (vb _) ⟨_,c⟩;refine f.laid (a:=s.heap.objs.size+1) (o:=.ins C s.heap.objs.size []) (t':=s.toks) (λb u q=>vJ _ q) (Nat.le_of_eq (Heap.size_push _ _)) ?_;have d:s.heap.objs.size≠s.heap.objs.size+1:=vE (Nat.lt_succ_self _);refine⟨by rw[jh d,jA],va _,d,g,λZ=>none,(Heap.Ns1.of_empty h).at λo q=>vJ _ q,λZ=>True.intro,λy j=>uf rfl j⟩
def Ih{f:Str}{s:Shared}{Q:Nz}(b:attributeBase e f env (eval e env)=eval e env)
  (h:wpAny (model prog w) A (eval e env) (λo a=>wpAny (model prog w) A (getAttr o f true) Q E a) E s):wpAny (model prog w) A (eval (.Attribute e f pos) env) Q E s:=
 Attribute_any_ h (by rw[arm_eval_Attribute,b])
end
def tI(K:cg)(ta:TE)(f:Str):TE:=λσ H Q=>ta σ H λx H1=>∃a C dx fs v,x = .ref a/\H1 a=some (.ins C dx fs)/\l4 K C/\cN K C f/\fs.lookup f=some v/\Q v H1
def sZ(K:cg)(ta tv:TE)(f:Str):TS:=λD σ H=>tv σ H λy H1=>ta σ H1 λx H2=>∃a C dx fs,x = .ref a/\H2 a=some (.ins C dx fs)/\l4 K C/\cN K C f/\⇑fs<1000/\
 D.nx σ (upd H2 a (.ins C dx (cb f y fs)))
section
variable{X:Cx}{o e value:Expr}{f:Str}{pos pos' tpos:Pos}{ta tv:TE}
def JG(o:PE X e ta)(m:attributeBase e f X.env (eval e X.env)=eval e X.env):PE X (.Attribute e f pos) (tI X.K ta f):=by
 intro b s t H Q I h;refine Ih m (cv (o b s t H _ I h) λu z z_=>?_);obtain⟨x,d,g,r,a,C,w,y,v,k,j,c,n,l,q⟩:=z_;subst k;obtain rfl:u=Value.ref a:=r;exact ER g j c n l λB A i p=>⟨v,d,i,p,q⟩
def Zw(p:PE X o ta)(t:PE X value tv)(r:swapsWith value (some (.Attribute o f pos')) pos.line X.env=pure false):PS X (.Assign [.Attribute o f pos'] value pos) (sZ X.K ta tv f):=by
 intro b s d H D I h;refine plainObj_wpAny_Assign_Attribute (cv (t b s d H _ I h) λu A z_=>?_) r;let⟨y,e,g,z,q⟩:=z_;refine cv (p b A d e _ g q) λov G z_=>?_;obtain⟨x,B,i,w,a,C,E,F,m,k,c,n,l,v⟩:=z_;subst m;obtain rfl:ov=Value.ref a:=w;exact EU i k c n l z λJ j=>⟨d,_,j,v⟩
end
section
variable{X:Cx}{pins:Ny}{σ:St}{H:Hp}{s:Shared}{A:Around}{E:Nz}{Q:Nz}{c:Value}{b:Bool}
inductive gf(K:cg)(H:Hp):V->Value->Prop where
 | cE:gf K H .cE (.type "NoneType")
 | bl (x:Bool):gf K H (.bl x) (.type "bool")
 | int (i:Int):gf K H (.int i) (.type "int")
 | str (x:Str):gf K H (.str x) (.type "str")
 | qk (x:UInt64):gf K H (.qk x) (.type "float")
 | lst {a:Addr} {xs:N2} (e:H a=some (.lst xs)):gf K H (.ref a) (.type "list")
 | lU {a:Addr} {o:Obj} {xs:N2} (e:H a=some (.lU o (.lst xs))):gf K H (.ref a) (.type "list")
 | tup {a:Addr} {xs:N2} (e:H a=some (.tup xs)):gf K H (.ref a) (.type "tuple")
 | dK {a:Addr} {kvs:List (Key×V)} (e:H a=some (.dK kvs)):gf K H (.ref a) (.type "dict")
 | dT {a:Addr} {kvs:List (List Key×V)} (e:H a=some (.dT kvs)):gf K H (.ref a) (.type "dict")
 | ins {a C dx:Addr} {fs:List (Str×V)} (e:H a=some (.ins C dx fs)) (cl:l4 K C) (ha:PySem.W.findIn K (.ref C) "__class__"= some (some (.builtin "object.__class__")))
   (hn:PySem.W.specialIn K (.builtin "object.__class__") "__get__"= some (some (.builtin "getset_descriptor.__get__"))) (htk:PySem.W.takesIn K (.builtin "object.__class__")=some true)
   (hm:PySem.W.mroIn K C (.type "object")=some true):gf K H (.ref a) (.ref C)
def FV(I:Inv X pins σ H s)(d:RelV x u)(m:gf X.K H x t)(e:PySem.W.kitOne X.K t c=some b)(h:∀tk,Q (.bool b) {s with toks:=tk}) :
  wpAny (model X.prog X.w) A (call (.builtin "isinstance") [u,c]) Q E s:=by
 cases m with
 | cE=>cases(show u=Value.none from d);exact PySem.W.kia_one PySem.W.kitx_none I.gQ True.intro e (λz=>nomatch z) h
 | bl y=>cases(show u=Value.bool y from d);exact PySem.W.kia_one PySem.W.kitx_bool I.gQ True.intro e (λz=>nomatch z) h
 | int i=>let⟨t,q⟩:=(show∃t,u=Value.int i t from d);cases q;exact PySem.W.kia_one PySem.W.kitx_int I.gQ True.intro e (λz=>nomatch z) h
 | str y=>let⟨t,q⟩:=(show∃t,u=Value.str y t from d);cases q;exact PySem.W.kia_one PySem.W.kitx_str I.gQ True.intro e (λz=>nomatch z) h
 | qk y=>let⟨t,q⟩:=(show∃t,u=Value.float y t from d);cases q;exact PySem.W.kia_one PySem.W.kitx_float I.gQ True.intro e (λz=>nomatch z) h
 | @lst a g ea=>
  cases(show u=Value.ref a from d);let⟨Z,Z,n,Z,f⟩:=(show cf X.prog X.w H s.heap a (.lst g)from I.cw a _ ea)
  exact PySem.W.kia_one PySem.W.kitx_list I.gQ ⟨_,f,rfl⟩ e (λz=>nomatch z) h
 | @lU a ob g ea=>
  cases(show u=Value.ref a from d);let⟨Z,Z,Z,n,Z,f⟩:=(show cf X.prog X.w H s.heap a (.lU ob (.lst g))from I.cw a _ ea)
  exact PySem.W.kia_one PySem.W.kitx_list I.gQ ⟨_,f,rfl⟩ e (λz=>nomatch z) h
 | @tup a g ea=>
  cases(show u=Value.ref a from d);let⟨Z,Z,Z,p⟩:=(show cf X.prog X.w H s.heap a (.tup g)from I.cw a _ ea)
  let⟨o,f,j,Z⟩:=p;exact PySem.W.kia_one PySem.W.kitx_tuple I.gQ ⟨o,f,j⟩ e (λz=>nomatch z) h
 | @dK a kvs ea=>
  cases(show u=Value.ref a from d);let⟨Z,Z,w,Z,p⟩:=(show cf X.prog X.w H s.heap a (.dK kvs)from I.cw a _ ea)
  let⟨o,l,k,f,j,Z⟩:=p;exact PySem.W.kia_one PySem.W.kitx_dict I.gQ ⟨o,f,j.1⟩ e (λz=>nomatch z) h
 | @dT a kvs ea=>
  cases(show u=Value.ref a from d);let⟨Z,Z,g,Z,o,l,k,f,j,Z⟩:=(show cf X.prog X.w H s.heap a (.dT kvs)from I.cw a _ ea)
  exact PySem.W.kia_one PySem.W.kitx_dict I.gQ ⟨o,f,j.1⟩ e (λz=>nomatch z) h
 | @ins a C dx fs ea cl ha hn htk hm=>
  cases(show u=Value.ref a from d);let⟨r,O,Z⟩:=wj I.cw ea;let⟨v,J,Z⟩:=O.look;exact PySem.W.kia_one (PySem.W.kitx_own (cl.get _) cl.hd ha hn htk hm) I.gQ J e (λz=>nomatch z) h
end
structure di(k:Nat)(A:Around):Prop where
 hd:A.handled=none
 dp:A.depth+3*k+5<recursionLimit
 un:A.units+16*k+200<cLine
def di.mono(r:di k A)(h:j<=k):di j A:=⟨r.hd,by have:=r.dp;lia,by have:=r.un;lia⟩
def di.deeper(r:di (k+1) A)(env:Env):di k (A.deeper env):=
 ⟨r.hd,by have:=r.dp;show A.depth+1+3*k+5<_;lia,by have:=r.un;show A.units+3+16*k+200<_;lia⟩
def Es{A:Around}{C:Addr}{us:L9}{a:List (Str×Value)}:(A.under (.builtin "type.__call__" ⟨.ref C::us,a⟩)).depth=A.depth+1:=by
 first | rfl | simp[Around.under,Code.weight,Code.isCreation,Code.isGuard,Code.isCaller,Code.frames,Code.isFrame,guardIds]
def Et{A:Around}{C:Addr}{us:L9}{a:List (Str×Value)}:(A.under (.builtin "type.__call__" ⟨.ref C::us,a⟩)).units=A.units+1:=by
 first | rfl | simp[Around.under,Code.cUnits,Code.frames,Code.isFrame]
def di.make(r:di (k+1) A)(C:Addr)(us:L9)(a:List (Str×Value)):di k (A.under (.builtin "type.__call__" ⟨.ref C::us,a⟩)):=
 ⟨r.hd,by have:=r.dp;rw[Es];lia,by have:=r.un;rw[Et];lia⟩
def di.depth(r:di k A):A.depth<recursionLimit:=by have:=r.dp;lia
def di.units(r:di k A):A.units+64<cLine:=by have:=r.un;lia
def rA:TA:=λq H Q=>Q [] H
def pz(ta:TE)(tr:TA):TA:=λσ H Q=>ta σ H λx H1=>tr σ H1 λxs H2=>Q (x::xs) H2
section
variable{X:Cx}{e:Expr}{es:Nt}{te:TE}{t:TA}{pos:Pos}
def jd:PA X [] rA:=λq q q q H Q I h=>Calls.spliced_nil ⟨[],H,I,.nil,h⟩
def ja(j:PE X e te)(k:PA X es t)(l:starEach (e::es) X.env=(false,eval e X.env)::starEach es X.env:=by rfl):PA X (e::es) (pz te t):=by
 intro b a s c H Q I h;rw[l];show wpAny _ _ (spliced ((false,eval e X.env)::backTo b (starEach es X.env))) _ _ s;refine Calls.spliced_cons (cv (j a s c H _ I h) λu q z_=>?_);obtain⟨x,d,g,o,m⟩:=z_;refine cv (k b a q c d _ g m) λw v z_=>?_;let⟨r,f,i,p,n⟩:=z_;exact⟨x::r,f,i,.cons o p,n⟩
def tR(t:TA):TE:=λσ H Q=>t σ H λxs H1=>⇑xs<=sizeLine/\∀p,H1 p=none->Q (.ref p) (upd H1 p (.tup xs))
def tK(t:TA):TE:=λσ H Q=>t σ H λxs H1=>⇑xs<=sizeLine/\∀p,H1 p=none->Q (.ref p) (upd H1 p (.lst xs))
def jJ{x1}(h:PA X es t):PE X (.Tuple es x1 pos) (tR t):=by
 intro a s l H Q I i;refine wpAny_Tuple_spliced (cv (h pos a s l H _ I i) λj c ⟨k,d,f,r,z,q⟩=>⟨by rw[<-⇑r];exact z,?_⟩);have g:d c.heap.objs.size=none:=f.cw.fresh (vb _);refine⟨.ref c.heap.objs.size,upd d c.heap.objs.size (.tup k),f.laid (t':=c.toks) (λb u e=>vJ _ e) (vb _) ?_,rfl,q _ g⟩;exact⟨z,j,r,⟨_,Heap.get?_push_size _ rfl,rfl,_,rfl⟩⟩
def jN(h:PA X es t):PE X (.List es pos) (tK t):=by
 intro a s l H Q I i;refine wpAny_List_spliced (cv (h pos a s l H _ I i) λj c ⟨k,d,f,r,z,q⟩=>⟨by rw[<-⇑r];exact z,?_⟩);have g:d c.heap.objs.size=none:=f.cw.fresh (vb _);refine⟨.ref c.heap.objs.size,upd d c.heap.objs.size (.lst k),f.laid (t':=c.toks) (λb u e=>vJ _ e) (vb _) ?_,rfl,q _ g⟩;exact⟨z,j,0,r,Heap.get?_push_size _ rfl⟩
end
noncomputable abbrev Sp:=N2->Hp->VK->XK->Prop
noncomputable abbrev mZ:=List Env->Hp->Shared->XK->Value->Shared->Prop
structure lP(P:Program)(w:World)(K:cg)(mg:Nw)(base:Heap)(A:Around)(outer:Nr)(s:Shared)(H:Hp):Prop where
 frames:A.frames=some outer
 mod:Mod K mg base
 bs:∀b o,base.get? b=some o->s.heap.get? b=some o/\H b=none
 n6:base.objs.size<=s.heap.objs.size
 gn:s.heap.FunFrames base outer
 oU:∀b∈mK outer,H b=none
 cw:eN P w H s.heap
 bare:AllBare s.gens
def CE(outer:Nr)(P:Program)(w:World)(H:Hp)(s:Shared)(Q:VK)(u:Value)(s':Shared):Prop:=
 ∃v H',s'.os=s.os/\AllBare s'.gens/\Un (mK outer) [] H H' s.heap s'.heap/\eN P w H' s'.heap/\RelV v u/\Q v H'
def CR(CX:mZ)(outer:Nr)(P:Program)(w:World)(H:Hp)(s:Shared)(Q:VK)(E:XK)(r:Result)(s':Shared):Prop:=
 match r with
 | .ok (.ret u)=>CE outer P w H s Q u s'
 | .ok _=>False
 | .error e=>CX outer H s E e s'
structure eJ(P:Program)(w:World)(K:cg)(mg:Nw)(base:Heap)(CX:mZ)(k:Nat)(f:Addr)(fd:FuncData)(ps:L8)(sp:Sp):Prop where
 len:∀vs H Q E,sp vs H Q E->⇑vs=⇑ps
 run:∀(A:Around) (outer:Nr) (s:Shared) (H:Hp) (args:Args) (us:L9) (vs:N2) (Q:VK) (E:XK),di k A->lP P w K mg base A outer s H->BindsTo s fd args (ps.zip us)->Vals vs us->sp vs H Q E->
  codeAny (model P w) A (.call (.ref f) args) (CR CX outer P w H s Q E) s
def eJ.mono{P:Program}{w:World}{K:cg}{e:Nw}{a:Heap}{CX:mZ}{j k:Nat}{f:Addr}{d:FuncData}{ps:L8}{sp:Sp}(F:eJ P w K e a CX j f d ps sp)(h:j<=k) :
  eJ P w K e a CX k f d ps sp:=⟨F.len,λA b s H c i l Q E g=>F.run A b s H c i l Q E (g.mono h)⟩
def lP.make{P:Program}{w:World}{K:cg}{c:Nw}{b:Heap}{A:Around}{a:Nr}{s:Shared}{H:Hp}(e:lP P w K c b A a s H)(C:Addr)(us:L9)(d:List (Str×Value)) :
  lP P w K c b (A.under (.builtin "type.__call__" ⟨.ref C::us,d⟩)) a s H:=⟨by first | exact e.frames | (simpa [Around.under,Code.envs,Code.isFrame,pushEnvs]using e.frames),e.mod,e.bs,e.n6,e.gn,e.oU,e.cw,e.bare⟩
section
variable{X:Cx}{pins:Ny}{σ:St}{H:Hp}{s s':Shared}
def Inv.sq(I:Inv X pins σ H s):lP X.prog X.w X.K X.mg X.base X.A X.stack s H:=
 ⟨I.ok.frames,I.ok.mod,I.bs,vW I.ok.n6 I.sz,I.stack,I.mu,I.cw,I.bare⟩
def Inv.after(I:Inv X pins σ H s)(h:CE X.stack X.prog X.w H s Q u s'):EP X pins σ Q u s':=by
 let⟨v,f,j,a,k,c,r,q⟩:=h;let⟨i,g,d,t,e⟩:=s';obtain rfl:e=s.os:=j;exact⟨v,f,I.call (h':=i) (g':=g) (d':=d) (t':=t) (ch:=[]) k c a (λb z=>uf z (by simp)),r,q⟩
end
def nN(sp:Sp)(dvs:N2)(E:XK)(t:TA):TE:=λσ H Q=>t σ H λvs H1=>sp (vs++dvs) H1 Q E
def nT(C:Addr)(m:Str)(sp:Sp)(dvs:N2)(E:XK)(ta:TE)(t:TA):TE:=λσ H Q=>ta σ H λx H1=>∃a dx fs,x = .ref a/\H1 a=some (.ins C dx fs)/\fs.lookup m=none/\
 t σ H1 λvs H2=>sp (x::(vs++dvs)) H2 Q E
def pE(C:Addr)(sp:Sp)(dvs:N2)(E:XK)(t:TA):TE:=λσ H Q=>t σ H λvs H1=>∀x dx,H1 x=none->H1 dx=none->dx≠x->
 sp (.ref x::(vs++dvs)) (upd (upd H1 dx (.own x)) x (.ins C dx [])) (λv H2=>v = .cE/\Q (.ref x) H2) E
def Binds(K:cg)(fd:FuncData)(ps:L8)(ds:L9):Prop:=
 ∀(s:Shared) (us:L9),K.In s.heap->⇑(us++ds)=⇑ps->BindsTo s fd ⟨us,[]⟩ (ps.zip (us++ds))
def Binds.all{K:cg}{a:FuncData}{ps:L8}(h:∀us:L9,⇑us=⇑ps->bindArgs a ⟨us,[]⟩=pure (ps.zip us)):Binds K a ps []:=λs us q b=>by
 rw[append_nil]at b|-;exact .of_eq (h us b)
def Passes(CX:mZ)(X:Cx)(E:XK):Prop:=∀(pins:Ny) (σ:St) (H:Hp) (s:Shared) (e:Value) (s':Shared),Inv X pins σ H s->CX X.stack H s E e s'->X.xe e s'
section
variable{X:Cx}{CX:mZ}{k:Nat}{f C:Addr}{fd:FuncData}{ps:L8}{sp:Sp}{dvs:N2}{ds:L9}{E:XK}{x m:Str}{p pos apos:Pos}{e o:Expr}{es:Nt}{ta:TE}{t:TA}
def Ag{b:St}{H:Hp}(F:eJ X.prog X.w X.K X.mg X.base CX k f fd ps sp)(j:di k X.A)(d:Binds X.K fd ps ds)(g:Vals dvs ds)(l:Passes CX X E)
  (I:Inv X pins b H s) (r:Vals vs us) (h:sp (vs++dvs) H Q E):wpAny (model X.prog X.w) X.A (call (.ref f) us) (EP X pins b Q) X.xe s:=by
 have c:Vals (vs++dvs) (us++ds):=r.append g;have i:⇑(us++ds)=⇑ps:=by rw[<-⇑c];exact F.len _ _ _ _ h
 refine wpAny_call (codeAny_mono (F.run X.A X.stack s H ⟨us,[]⟩ (us++ds) (vs++dvs) Q E j I.sq (d s us I.gQ i) c h) λr m a=>?_);cases r with
 | error e=>exact l pins b H s e m I a
 | ok fl=>
  cases fl with
  | ret u=>exact I.after a
  | next=>exact False.elim a
  | brk=>exact False.elim a
  | cont=>exact False.elim a
def YJ(F:eJ X.prog X.w X.K X.mg X.base CX k f fd ps sp)(u:di k X.A)(m:Gl X x)(o:X.mg x=↥f)(n:PySem.W.keepIn X.K (.ref f)=true)(i:Binds X.K fd ps ds)(j:Vals dvs ds)(v:Passes CX X E)
  (g:PA X (e::es) t) (b:(x==("__debug__" : Str))=false:=by decide) (l:starEach (e::es) X.env=(false,eval e X.env)::starEach es X.env:=by rfl) (c:(backTo pos (starEach es X.env)).any (·.1)=false:=by rfl) :
  PE X (.Call (.Name x p) (e::es) [] pos) (nN sp dvs E t):=by
 intro a s w H Q I h;refine wpAny_Call_Name_kw (Xv I m o ?_ b);refine PySem.W.callWith_K (h₀:=X.base) I.ok.mod.sN n (cv (g pos a s w H _ I h) λB z z_=>?_) l c;let⟨C,y,d,r,q⟩:=z_;refine⟨d.gQ,?_⟩;exact Ag F u i j v d r q
def kP(G:PE X o ta)(c:l4 X.K C)(n:Meth X.K C m f)(F:eJ X.prog X.w X.K X.mg X.base CX k f fd ps sp)(J:di k X.A)(B:Binds X.K fd ps ds)(D:Vals dvs ds)(L:Passes CX X E)(z:PA X (e::es) t)
  (g:starEach (e::es) X.env=(false,eval e X.env)::starEach es X.env:=by rfl) (d:(backTo pos (starEach es X.env)).any (·.1)=false:=by rfl)
  (K:eval (.Call (.Attribute o m apos) (e::es) [] pos) X.env=(do
   let ov <-eval o X.env
   standAt apos.atName
   let (f,first) <-holding [ov] (getMethod ov m pl)
   callWith pos f first (backTo pos (starEach (e::es) X.env)) (backToKw pos (keywordEach [] X.env))):=by rfl) :
  PE X (.Call (.Attribute o m apos) (e::es) [] pos) (nT C m sp dvs E ta t):=by
 intro b s p H Q I h;refine PySem.W.methodCall_KW (pl:=pl) (cv (G b s p H _ I h) λu O z_=>?_) K;obtain⟨x,v,i,N,a,R,S,y,w,l,q⟩:=z_;subst y;obtain rfl:u=Value.ref a:=N;refine wX i w c n l ?_;refine PySem.W.callWith_K (first:=[.ref a]) (h₀:=X.base) I.ok.mod.sN n.kp (cv (z pos b O p v _ i q) λus T z_=>?_) g d;let⟨vs,P,j,r,M⟩:=z_;refine⟨j.gQ,?_⟩;exact Ag (us:=.ref a::us) (vs:=.ref a::vs) F J B D L j (.cons rfl r) M
def Ye{pl:Sem Bool}(p:PE X o ta)(c:l4 X.K C)(e:Meth X.K C m f)(F:eJ X.prog X.w X.K X.mg X.base CX k f fd ps sp)(r:di k X.A)(j:Binds X.K fd ps ds)(n:Vals dvs ds)(v:Passes CX X E)
  (t:eval (.Call (.Attribute o m apos) [] [] pos) X.env=(do
   let ov <-eval o X.env
   standAt apos.atName
   let (f,first) <-holding [ov] (getMethod ov m pl)
   callWith pos f first (backTo pos (starEach [] X.env)) (backToKw pos (keywordEach [] X.env))):=by rfl) :
  PE X (.Call (.Attribute o m apos) [] [] pos) (nT C m sp dvs E ta rA):=by
 intro b s y H Q I h;refine PySem.W.methodCall_KW (pl:=pl) (cv (p b s y H _ I h) λu G z_=>?_) t;obtain⟨x,z,d,w,a,B,D,i,g,l,q⟩:=z_;subst i;obtain rfl:u=Value.ref a:=w;refine wX d g c e l ?_;exact PySem.W.callWith_K0 (first:=[.ref a]) d.gQ e.kp (Ag (us:=[.ref a]) (vs:=[.ref a]) F r j n v d (.cons rfl .nil) q)
structure Mk(K:cg)(C f:Addr):Prop where
 makes:PySem.W.makesIn K C=true
 init:PySem.W.findIn K (.ref C) "__init__"= some (↥f)
 fn:PySem.W.isFn K (.ref f)=true
 kp:PySem.W.keepIn K (.ref C)=true
def GR{c:St}{H:Hp}(M:Mk X.K C f)(F:eJ X.prog X.w X.K X.mg X.base CX k f fd ps sp)(p:di (k+1) X.A)(m:Binds X.K fd ps ds)(n:Vals dvs ds)
  (q:Passes CX X E) (I:Inv X pins c H s) (r:Vals vs us)
  (h:∀x dx,H x=none->H dx=none->dx≠x->sp (.ref x::(vs++dvs)) (upd (upd H dx (.own x)) x (.ins C dx [])) (λv H2=>v = .cE/\Q (.ref x) H2) E) :
  wpAny (model X.prog X.w) X.A (call (.ref C) us) (EP X pins c Q) X.xe s:=by
 have d:=h (s.heap.objs.size+1) s.heap.objs.size (I.cw.fresh (Nat.le_succ _)) (I.cw.fresh (vb _)) (vE (Nat.lt_succ_self _));have b:=Inv.made (C:=C) I;have g:Vals (V.ref (s.heap.objs.size+1)::(vs++dvs)) (Value.ref (s.heap.objs.size+1)::(us++ds)):=.cons rfl (r.append n);have o:⇑(Value.ref (s.heap.objs.size+1)::us++ds)=⇑ps:=by
  have e:=⇑g;rw[F.len _ _ _ _ d]at e;exact e.symm
 refine wpAny_call (Gu (f:=f) I.gQ M.makes M.init (beq_iff_eq.mp M.fn) (codeAny_mono (F.run _ X.stack _ _ ⟨Value.ref (s.heap.objs.size+1)::us,[]⟩ (Value.ref (s.heap.objs.size+1)::(us++ds)) _ _ E (p.make C us [])
  (b.sq.make C us []) (m _ (Value.ref (s.heap.objs.size+1)::us) b.gQ o) g d) λr y a=>?_))
 cases r with
 | error e=>exact q pins c _ _ e y b a
 | ok fl=>
  cases fl with
  | ret u=>
   let⟨v,i,j,w,l,t⟩:=b.after a;subst l;exact⟨w,⟨V.ref (s.heap.objs.size+1),i,j,rfl,t⟩⟩
  | next=>exact False.elim a
  | brk=>exact False.elim a
  | cont=>exact False.elim a
def XX(M:Mk X.K C f)(F:eJ X.prog X.w X.K X.mg X.base CX k f fd ps sp)(o:di (k+1) X.A)(m:Gl X x)(n:X.mg x=↥C)(i:Binds X.K fd ps ds)(j:Vals dvs ds)(u:Passes CX X E)
  (g:PA X (e::es) t) (b:(x==("__debug__" : Str))=false:=by decide) (l:starEach (e::es) X.env=(false,eval e X.env)::starEach es X.env:=by rfl) (c:(backTo pos (starEach es X.env)).any (·.1)=false:=by rfl) :
  PE X (.Call (.Name x p) (e::es) [] pos) (pE C sp dvs E t):=by
 intro a s v H Q I h;refine wpAny_Call_Name_kw (Xv I m n ?_ b);refine PySem.W.callWith_K (h₀:=X.base) I.ok.mod.sN M.kp (cv (g pos a s v H _ I h) λz y z_=>?_) l c;let⟨B,w,d,r,q⟩:=z_;refine⟨d.gQ,?_⟩;exact GR M F o i j u d r q
end
structure bJ(N P:L8)(sc:Scope):Prop where
 kind:sc.kind = .function
 co:sc.isCoroutine=false
 gen:sc.isGenerator=false
 nd:N.Nodup
 pre:N.take ⇑P=P
 par:∀x∈P,sc.names.lookup x=some .local\/sc.names.lookup x=some .cell
 rm:∀y∈sc.names,y.2≠.free
theorem W1{b:Str->Option NameKind}:∀{a:List (Str×Value)} {m:Nw},(∀v,(x,v)∉a)->bindL b a m x=m x
 | [],_,_=>rfl
 | (n,v)::r,m,h=>by
  unfold bindL;rw[W1 λw c=>h w (vp _ c)];split
  .have:x≠n:=by rintro rfl;exact h v vq
   simp[this]
  .rfl
theorem WZ{b:Str->Option NameKind}:∀{a:List (Str×Value)} {m:Nw},(∀v,(x,v)∉a)->bindC b a m x=m x
 | [],_,_=>rfl
 | (n,v)::r,m,h=>by
  unfold bindC;rw[WZ λw c=>h w (vp _ c)];split
  .rfl
  .have:x≠n:=by rintro rfl;exact h v vq
   simp[this]
theorem W0{a:Str->Option NameKind}:∀{P:L8} {vs:L9} {i:Nat} {m:Nw},P.Nodup->P[i]?=some x->vs[i]?=some v->a x=some .local->
  bindL a (P.zip vs) m x=some v
 | [],_,_,_,_,h,_,_=>by simp at h
 | _::_,[],_,_,_,_,h,_=>by simp at h
 | p::P,w::vs,0,m,nd,h1,h2,hk=>by
  simp at h1 h2;subst h1;subst h2;show bindL a ((p,w)::P.zip vs) m p=_;unfold bindL;rw[W1 λv b=>(uo.mp nd).1 (of_mem_zip b).1,vd hk];simp
 | p::P,w::vs,i+1,m,nd,h1,h2,hk=>by
  show bindL a ((p,w)::P.zip vs) m x=_;unfold bindL;exact W0 (i:=i) (uo.mp nd).2 #v[h1] #v[h2] hk
theorem WY{a:Str->Option NameKind}:∀{P:L8} {vs:L9} {i:Nat} {m:Nw},P.Nodup->P[i]?=some x->vs[i]?=some v->a x≠some .local->
  bindC a (P.zip vs) m x=some v
 | [],_,_,_,_,h,_,_=>by simp at h
 | _::_,[],_,_,_,_,h,_=>by simp at h
 | p::P,w::vs,0,m,nd,h1,h2,hk=>by
  simp at h1 h2;subst h1;subst h2;show bindC a ((p,w)::P.zip vs) m p=_;unfold bindC;rw[WZ λv b=>(uo.mp nd).1 (of_mem_zip b).1,vc hk];simp
 | p::P,w::vs,i+1,m,nd,h1,h2,hk=>by
  show bindC a ((p,w)::P.zip vs) m x=_;unfold bindC;exact WY (i:=i) (uo.mp nd).2 #v[h1] #v[h2] hk
noncomputable def start(N:L8)(vs:N2):St:=vs.map some++List.replicate (⇑N-⇑vs) none
noncomputable def eF(CX:mZ)(P:Program)(w:World)(K:cg)(mg:Nw)(base:Heap)(N:L8)(qual:Str)(scope:Scope)(f:Addr)(cd:Value)(A:Around)(outer:Nr)(s:Shared)(H:Hp)(E:XK):Cx where
 prog:=P
 w:=w
 K:=K
 mg:=mg
 base:=base
 A:=A.deeper (envOfC qual scope s.heap.objs.size f cd)
 N:=N
 s₀:=s
 H₀:=H
 env:=envOfC qual scope s.heap.objs.size f cd
 outer:=outer
 stack:=envOfC qual scope s.heap.objs.size f cd::outer
 ex:=[]
 calm:=true
 fn:=λq=>true
 pn:=[]
 xe:=λe s'=>wpAny (model P w) (A.deeper (envOfC qual scope s.heap.objs.size f cd)) (leaving (envOfC qual scope s.heap.objs.size f cd) e) (λq s''=>CX outer H s E e s'') (λe' s''=>CX outer H s E e' s'') s'
def BC{a:Scope}{n:Nat}{x:Str}(h:a.names.lookup x=some .cell):∃c,(cellsFrom n a.names []).lookup x=some c:=by
 have q:=PySem.W.cellsFrom_some a.names n [] (.inl h);exact Option.isSome_iff_exists.mp q
def FU{CX:mZ}{P:Program}{w:World}{K:cg}{J:Nw}{m:Heap}{N ps:L8}{j:Str}{d:Scope}{f:Addr}{F:Value}{A:Around}{g:Nr}{s O:Shared}{H:Hp}{E:XK}{us:L9}{vs:N2}
  (S:bJ N ps d) (R:A.handled=none) (o:lP P w K J m A g s H) (X:⇑vs=⇑ps) (r:Vals vs us)
  (x:InCallC s s.heap.objs.size (bindL (envOfC j d s.heap.objs.size f F).kindOf (ps.zip us) λZ=>none) (cellsFrom (s.heap.objs.size+1) d.names []) (bindC (envOfC j d s.heap.objs.size f F).kindOf (ps.zip us) λZ=>none) O) :
  Inv (eF CX P w K J m N j d f F A g s H E) [] (start N vs) H O:=by
 have T:⇑ps<=⇑N:=by have:=congrArg List.length S.pre;rw[vi]at this;lia
 let⟨G,Y,rfl,L⟩:=x.done;have B:∀b:Addr,b∉(eF CX P w K J m N j d f F A g s H E).ex:=λb z=>uf (show b∈([]:L7)from z) (by simp)
 refine⟨⟨o.mod,S.kind,rfl,rfl,vb _,λy z c G l=>?_,λy t=>?_,λy c Z h=>?_,λZ=>R,Around.frames_deeper o.frames,.inr ⟨rfl,rfl⟩,λb z=>uf z (B b),o.bs,o.n6,λb Z Z=>B b,λb z=>uf z (B b),o.gn,o.oU⟩,
  rfl,o.bare,Un.kept L,⟨_,x.toInCall.ns,λi y v G l W=>?_⟩,λy c h=>⟨_,x.cell y c h⟩,o.cw.fresh (vb _),λy c h=>?_,λp C=>uf (show p∈([]:Ny)from C) (by simp),o.cw.kept L,?_⟩
 .exact name_of_addr x.apart (PySem.mem_of_lookup G) (PySem.mem_of_lookup l)
 .have t:d.names.lookup y=some .cell\/d.names.lookup y=some .free:=t;rcases t with t | t
  .exact BC t
  .exact uf rfl (S.rm _ (PySem.mem_of_lookup t))
 .exact vY (x.above y c (PySem.mem_of_lookup h))
 .have I:i<⇑vs:=by
   unfold start at l;by_cases I:i<⇑vs
   .exact I
   .rw[vC #v[I]]at l;rw[List.getElem?_replicate]at l;split at l<;>cases l
  have Q:vs[i]?=some v:=by
   unfold start at l;rw[vB #v[I],vv]at l;cases e:vs[i]? with
   | none=>rw[e]at l;cases l
   | some a=>rw[e]at l;cases l;rfl
  let⟨u,M,U⟩:=r.get Q;have C:ps[i]?=some y:=by
   rw[<-S.pre,uq ⋯];exact G
  have D:ps.Nodup:=by rw[<-S.pre];exact S.nd.sublist (take_sublist _ _)
  refine⟨u,U,?_⟩;rcases S.par y (vm C)with k | k
  .exact .inl ⟨k,W0 D C M k⟩
  .let⟨c,e⟩:=BC (n:=s.heap.objs.size+1) k;refine .inr ⟨.inl k,c,e,?_⟩;have q:=x.cell y c e;rw[WY D C M (by show d.names.lookup y≠_;rw[k];decide)]at q;exact q
 .exact o.cw.fresh (vY (x.above y c (PySem.mem_of_lookup h)))
 .unfold start;show _=⇑N
  simp_all
def LX{CX:mZ}{P:Program}{w:World}{K:cg}{L:Nw}{i:Heap}{k:Nat}{f:Addr}{name d:Str}{j:Arguments}{l:List Stmt}{a:Scope}{dV kV C pm g Z oc:Value}{an od:Option Addr}
  {T:Array (Nv)} {N ps:L8} {sp:Sp} (lk:K.lookup f=some ⟨oc,od,.func (PySem.W.fnOf name d j l a dV kV C pm an g Z),T⟩) (M:PySem.W.codeIn K g d=true) (S:bJ N ps a)
  (len:∀vs H Q E,sp vs H Q E->⇑vs=⇑ps)
  (p:∀(A:Around) (c:Nr) (s:Shared) (H:Hp) (vs:N2) (Q:VK) (E:XK),di k (A.deeper (envOfC d a s.heap.objs.size f g))->sp vs H Q E->
   ∃t,lS (eF CX P w K L i N d a f g A c s H E) l t/\t {nx:=λ_ H'=>Q .cE H',rt:=Q} (start N vs) H) :
  eJ P w K L i CX (k+1) f (PySem.W.fnOf name d j l a dV kV C pm an g Z) ps sp:=by
 refine⟨len,λA c s H Y us vs Q E O D hb r G=>?_⟩;have hl:=len _ _ _ _ G;have X:K.In s.heap:=D.mod.sN.keeps λb o e=>(D.bs b o e).1
 have R:s.heap.NoLimit:=D.mod.nolimit.keeps λb o e=>(D.bs b o e).1
 have z:∀y∈ps.zip us,a.names.lookup y.1=some .local\/(a.names.lookup y.1=some .cell/\((cellsFrom (s.heap.objs.size+1) a.names []).lookup y.1).isSome=true):=λ⟨n,v⟩ hy=>by
  rcases S.par n (of_mem_zip hy).1 with q | q
  .exact .inl q
  .exact .inr ⟨q,PySem.W.cellsFrom_some _ _ _ (.inl q)⟩
 refine codeAny_call_function O.depth (X _ _ lk) rfl S.co S.gen rfl (PySem.W.codeRec_of X M) (hb _ _ _ _ ?_);refine wpAny_newFunctionEnv_cells S.kind z λa0 he s1 x=>?_
 subst he;refine⟨R.keeps x.toInCall.keep,codeAny_func ?_⟩;let⟨t,ht,hq⟩:=p A c s H vs Q E (O.deeper _) G;have I:Inv (eF CX P w K L i N d a f g A c s H E) [] (start N vs) H s1:=FU S O.hd D hl r x;refine wpAny_mono (ht [] s1 (start N vs) H _ I hq) (λfl W B=>?_) λe W B=>B
 have F:∀{m:St} {H':Hp} {v:V} {u:Value},Inv (eF CX P w K L i N d a f g A c s H E) [] m H' W->RelV v u->Q v H'->CE c P w H s Q u W:=
  λ{m H' v u} J U q=>⟨v,H',J.os,J.bare,J.base,J.cw,U,q⟩
 cases fl with
 | ret u=>
  let⟨v,m,H',J,U,q⟩:=B;exact F J U q
 | next=>
  let⟨m,H',J,q⟩:=B;exact F (v:=V.cE) (u:=Value.none) J rfl q
 | brk=>
  let⟨_,_,_,q⟩:=B;exact False.elim q
 | cont=>
  let⟨_,_,_,q⟩:=B;exact False.elim q
section
variable{X:Cx}{x:Str}{p pos:Pos}{e:Expr}{es:Nt}{t:TA}{id T:String}{r:N2->Hp->VK->Prop}
def AX(r:N2->Hp->VK->Prop)(t:TA):TE:=λσ H Q=>t σ H λvs H1=>r vs H1 Q
def jy(j:cV X (.builtin id) r)(l:Gl X x)(m:X.mg x=none)(o:bootBuiltins x=some (.builtin id))(i:PA X (e::es) t)(n:x≠"__name__":=by decide)(b:(x==("__debug__" : Str))=false:=by decide)
  (k:starEach (e::es) X.env=(false,eval e X.env)::starEach es X.env:=by rfl) (c:(backTo pos (starEach es X.env)).any (·.1)=false:=by rfl):PE X (.Call (.Name x p) (e::es) [] pos) (AX r t):=by
 intro a s d H Q I h;refine wpAny_Call_Name_kw (Zv I l m o ?_ n b);refine PyProof.Rows.callWith_builtin1 (cv (i pos a s d H _ I h) λw v z_=>?_) k c;let⟨y,f,g,u,q⟩:=z_;exact j a v d f y w Q g u q
def Js(j:cV X (.type T) r)(l:Gl X x)(m:X.mg x=none)(o:bootBuiltins x=some (.type T))(i:PA X (e::es) t)(n:x≠"__name__":=by decide)(b:(x==("__debug__" : Str))=false:=by decide)
  (k:starEach (e::es) X.env=(false,eval e X.env)::starEach es X.env:=by rfl) (c:(backTo pos (starEach es X.env)).any (·.1)=false:=by rfl):PE X (.Call (.Name x p) (e::es) [] pos) (AX r t):=by
 intro a s d H Q I h;refine wpAny_Call_Name_kw (Zv I l m o ?_ n b);refine PyProof.Rows.callWith_type1 (cv (i pos a s d H _ I h) λw v z_=>?_) k c;let⟨y,f,g,u,q⟩:=z_;exact j a v d f y w Q g u q
end
end L2
namespace HT
open PySem PyProof.Rows
section
variable{prog:Program}{w:World}{A:Around}{E:Nz}{s:Shared}
def Ij{t b:Addr}{vs a:L9}{Q:Nz}(z:IsTup s.heap t vs.toArray)(y:IsTup s.heap b a.toArray)(q:vs≠[])
  (v:a=[]->Q (.ref t) s) (x:a≠[]->Q (.ref s.heap.objs.size) {s with heap:=s.heap.push {cls:=.type "tuple",data:=.seq (vs++a).toArray}})
  (hsz:⇑vs+⇑a<=sizeLine):wpAny (model prog w) A (binaryOp .Add (.ref t) (.ref b)) Q E s:=by
 let⟨⟨cls,m,data,u⟩,i,o,n,p⟩:=id z;let⟨⟨l,d,k,h⟩,c,f,r,g⟩:=id y;simp only at o p f g;subst o p f g;have e:vs.toArray++a.toArray=(vs++a).toArray:=by simp
 by_cases j:a=[]
 .exact concat_meets ⟨_,i,rfl⟩ ⟨_,c,rfl⟩ noFill_tuple_add seq_tuple_add PySem.F.slot_tuple_add PySem.F.entry_tuple_add (PySem.F.args_tuple_add_2 _ _)
   (tuple_addW1 t b vs.toArray a.toArray n r m d u h #v[q] (by simp[j])) ⟨i,c,v j⟩
 .refine concat_meets ⟨_,i,rfl⟩ ⟨_,c,rfl⟩ noFill_tuple_add seq_tuple_add PySem.F.slot_tuple_add PySem.F.entry_tuple_add (PySem.F.args_tuple_add_2 _ _)
   (tuple_addW2 t b vs.toArray a.toArray n r m d u h #v[q] #v[j] (by simp_all)) ⟨i,c,?_⟩
  rw[e];exact x j
noncomputable def de(n d:Nat):Option Int->Nat
 | none=>d
 | some v=>if v<0 then(v+(n:Int)).toNat else min v.toNat n
def X6(n d k:Nat):de n d (some (k:Int))=min k n:=by
 show(if(k:Int)<0 then((k:Int)+(n:Int)).toNat else min (k:Int).toNat n)=min k n;rw[vc ⋯,Int.toNat_natCast]
def LL(n d:Nat)(b:d<=n)(o:Nu):de n d o<=n:=by
 cases o with
 | none=>exact b
 | some v=>
  show(if v<0 then(v+(n:Int)).toNat else min v.toNat n)<=n;by_cases a:v<0
  .rw[vd a];lia
  .rw[vc a];exact Nat.min_le_right _ _
def Ct(v:Int)(n d:Nat):(if v<0 then max (v+(n:Int)) 0 else min v (n:Int))=((de n d (some v):Nat):Int):=by
 show(if v<0 then max (v+(n:Int)) 0 else min v (n:Int))=(((if v<0 then(v+(n:Int)).toNat else min v.toNat n):Nat):Int)
 by_cases a:v<0
 .simp only[if_pos a];lia
 .simp only[if_neg a];lia
def EK(lo hi:Nu)(n:Nat):Builtin.Slice.sliceAdjust lo hi 1 (n:Int)=(((de n 0 lo:Nat):Int),((de n n hi:Nat):Int)):=by
 have a:¬((1:Int)<0):=⋯
 unfold Builtin.Slice.sliceAdjust;simp only[a,if_false];refine Prod.ext ?_ ?_
 .cases lo with
  | none=>rfl
  | some v=>exact Ct v n 0
 .cases hi with
  | none=>rfl
  | some v=>exact Ct v n n
def EI(i j:Nat):Builtin.Slice.slicePlaces (i:Int) (j:Int) 1=j-i:=by
 unfold Builtin.Slice.slicePlaces;have a:(1:Int)>0:=⋯
 simp only[a,if_true,Int.ediv_one];split<;>lia
def hZ{Q:Option Int->Shared->Prop}(p:IsPart v o)(h:Q o s):wpAny (model prog w) A (Builtin.Slice.slicePartIndex v) Q E s:=by
 cases p with
 | none=>exact slicePart_none h
 | int i t=>exact slicePart_int h
def KM{e:Addr}{c d:Value}{lo hi:Nu}{n:Nat}{Q:Int×Int×Nat->Shared->Prop}(g:s.heap.IsSliceOf e c d .none)(pl:IsPart c lo)(i:IsPart d hi)
  (h:Q (((de n 0 lo:Nat):Int),1,de n n hi-de n 0 lo) s):wpAny (model prog w) A (Builtin.Slice.sliceApplied (.ref e) (pure (n:Int))) Q E s:=by
 let⟨j,b,f,a⟩:=id g;unfold Builtin.Slice.sliceApplied Builtin.Slice.sliceFields;refine uh (uh (wpAny_field b a (x:=c) rfl (uh (wpAny_field b a (x:=d) rfl (uh (wpAny_field b a (x:=.none) rfl (ug ?_)))))));refine uh (slicePart_none ?_);show wpAny _ _ (if((1:Int)==0)=true then _ else _) _ _ s;rw[vc nofun];refine uh (hZ pl (uh (hZ i (uh (ug ?_)))));show wpAny _ _ (match Builtin.Slice.sliceAdjust lo hi 1 (n:Int)with | (lo,hi)=>pure (lo,(1:Int),Builtin.Slice.slicePlaces lo hi 1)) _ _ s;rw[EK lo hi n];show wpAny _ _ (pure (((de n 0 lo:Nat):Int),(1:Int),Builtin.Slice.slicePlaces ((de n 0 lo:Nat):Int) ((de n n hi:Nat):Int) 1)) _ _ s;rw[EI];exact ug h
def Hj(xs:Array Value)(i k:Nat):((List.range k).filterMap λ(m:Nat)=>xs[((i:Int)+(m:Int)*1).toNat]?).toArray=((xs.toList.drop i).take k).toArray:=by
 have e:(λ(m:Nat)=>xs[((i:Int)+(m:Int)*1).toNat]?)=λm=>xs[i+m]?:=by
  funext m;have:((i:Int)+(m:Int)*1).toNat=i+m:=⋯
  rw[this]
 rw[e];have:=pick_run xs i k;rw[List.filterMap_map]at this;have a:(Function.comp (λx=>xs[x]?) λx=>i+x)=λm=>xs[i+m]?:=rfl
 rw[a]at this;rw[this]
def kG{t g:Addr}{items:Array Value}{j k:Value}{lo hi:Nu}{Q:Nz}(b:IsTup s.heap t items)(i:s.heap.IsSliceOf g j k .none)(pl:IsPart j lo)(o:IsPart k hi)
  (hw:¬(de items.size 0 lo=0/\de items.size items.size hi=items.size))
  (h:Q (.ref s.heap.objs.size) {s with heap:=s.heap.push {cls:=.type "tuple",data:=.seq ((items.toList.drop (de items.size 0 lo)).take (de items.size items.size hi-de items.size 0 lo)).toArray}})
  (hsz:items.size<=sizeLine):wpAny (model prog w) A (getItem (.ref t) (.ref g)) Q E s:=by
 have a:sizeOk (.seq ((items.toList.drop (de items.size 0 lo)).take (de items.size items.size hi-de items.size 0 lo)).toArray):=by
  show((items.toList.drop (de items.size 0 lo)).take (de items.size items.size hi-de items.size 0 lo)).toArray.size<=sizeLine;rw[size_toArray,vi,List.length_drop,Array.length_toList];lia
 have p:de items.size items.size hi<=items.size:=LL _ _ (vb _) hi;let⟨n,f,d,l⟩:=id i;have c:s.TypeIs (.ref g) "slice":=⟨n,f,d⟩
 unfold getItem
 try with_reducible refine wpAny_holding ?_
 first | refine uh (ug ?_) | skip
 refine uh (wpAny_sequenceKey b.typeIs nofun ?_);refine uh (wpAny_callSpecial?_slot (name:=Str.ofString "__getitem__") b.typeIs PyProof.Rows.slot_tuple_getitem
  (wpAny_call_entry PyProof.Rows.slot_tuple_getitem b.typeIs entry_tuple_getitem ?_ (args_tuple_getitem _ _)))
 show wpAny _ _ (Builtin.Tuple.tupleItemsOf (.ref t) >>= _) _ _ s;refine uh (tupleItemsOf_ b ?_);refine uh (wpAny_typeOf c ?_);rw[vd nofun];refine uh (KM i pl o ?_);have e:¬((((de items.size 0 lo:Nat):Int)==0&&(1:Int)==1&&(de items.size items.size hi-de items.size 0 lo)==items.size)=true):=by
  intro q;rw[Bool.and_eq_true,Bool.and_eq_true]at q;have r:((de items.size 0 lo:Nat):Int)=0:=eq_of_beq q.1.1;have u:de items.size items.size hi-de items.size 0 lo=items.size:=eq_of_beq q.2;exact hw ⟨⋯,⋯⟩
 show wpAny _ _ (if(((de items.size 0 lo:Nat):Int)==0&&(1:Int)==1&&(de items.size items.size hi-de items.size 0 lo)==items.size)=true then _ else _) _ _ s;rw[vc e,Hj]
 first
  | exact uh (m:=Builtin.Tuple.tupleExact _) (wpAny_newObj_type (ug ⟨_,rfl,ug h⟩) a)
  | exact uh (m:=Builtin.Tuple.tupleExact _) (wpAny_newObj_type (uh (ug (ug ⟨_,rfl,ug h⟩))) a)
  | exact uh (uh (m:=Builtin.Tuple.tupleExact _) (wpAny_newObj_type (ug (ug ⟨_,rfl,ug h⟩)) a))
  | exact uh (uh (m:=Builtin.Tuple.tupleExact _) (wpAny_newObj_type (ug ⟨_,rfl,ug h⟩) a))
end
end HT
namespace L2
open PySem PySem.Spec PyProof.Rows
noncomputable abbrev TO:=St->Hp->(Option Int->Hp->Prop)->Prop
def PO(X:Cx)(e:Option Expr)(t:TO):Prop:=
 ∀(pins:Ny) (s:Shared) (σ:St) (H:Hp) (Q:Option Int->Hp->Prop),Inv X pins σ H s->t σ H Q->
  wpAny (model X.prog X.w) X.A (evalPart e X.env) (λu s'=>∃o H',Inv X pins σ H' s'/\IsPart u o/\Q o H') X.xe s
def mx:TO:=λq H Q=>Q none H
def pH(t:TE):TO:=λσ H Q=>t σ H λx H1=>∃i,x = .int i/\Q (some i) H1
def intsAre_of:∀{us:L9},Vals (ns.map V.int) us->IntsAre us ns:=by
 induction ns with
 | nil=>intro us r;rw[map_nil]at r;cases r;exact .nil
 | cons n ns ih=>
  intro us r;rw[v9]at r;cases r with
  | cons r1 r2=>
   let⟨t,e⟩:=r1;subst e;exact .cons n t (ih r2)
section
variable{X:Cx}{e:Expr}{te:TE}{lo hi:Option Expr}{tl th:TO}{pos p2:Pos}
def Zk:PO X none mx:=by
 intro a s b H Q I h;rw[evalPart_none];exact ug ⟨none,H,I,.none,h⟩
def QU(h:PE X e te):PO X (some e) (pH te):=by
 intro a s j H Q I d;rw[evalPart_some];refine cv (h a s j H _ I d) λu k z_=>?_;obtain⟨x,b,c,g,f⟩:=z_
 let⟨i,rfl,q⟩:=f;let⟨t,rfl⟩:=g;exact⟨some i,b,c,.int i t,q⟩
def tY(X:Cx)(r:V->Option Int->Option Int->Hp->VK->Prop):Prop:=
 ∀(pins:Ny) (s:Shared) (σ:St) (H:Hp) (x:V) (v vl vu:Value) (lo hi:Nu) (sl:Addr) (Q:VK),Inv X pins σ H s->RelV x v->s.heap.IsSliceOf sl vl vu .none->IsPart vl lo->IsPart vu hi->r x lo hi H Q->
  ∃T id,typeLookup (.type T) "__getitem__"= pure (some (.builtin id))/\s.TypeIs v T/\wpAny (model X.prog X.w) X.A (getItem v (.ref sl)) (EP X pins σ Q) X.xe s
def D3(r:V->Option Int->Option Int->Hp->VK->Prop)(te:TE)(tl th:TO):TE:=λσ H Q=>te σ H λx H1=>tl σ H1 λl H2=>th σ H2 λu H3=>r x l u H3 Q
def Q5{r:V->Option Int->Option Int->Hp->VK->Prop}(A:tY X r)(w:PE X e te)(z:PO X lo tl)(C:PO X hi th):PE X (.Subscript e (.Slice lo hi none p2) pos) (D3 r te tl th):=by
 intro a s d H Q I h;refine Subscript_ (cv (w a s d H _ I h) λv L z_=>?_);obtain⟨x,j,m,K,F⟩:=z_;refine wpAny_Slice (cv (z a L d j _ m F) λf M z_=>?_);let⟨l,k,n,D,G⟩:=z_;refine cv (C a M d k _ n G) λg c z_=>?_;obtain⟨u,i,o,E,J⟩:=z_;rw[evalPart_none];refine ug ?_;have p:Inv X a d i {c with heap:=c.heap.push {cls:=.type "slice",data:=.fields #[f,g,.none]}}:=o.kept (t':=c.toks) λb O q=>vJ _ q
 let⟨T,N,t,B,y⟩:=A a {c with heap:=c.heap.push {cls:=.type "slice",data:=.fields #[f,g,.none]}} d i x v f g l u c.heap.objs.size Q p K (Heap.IsSliceOf.new ..) D E J;show wpAny (model X.prog X.w) X.A (subscriptTail e (.Slice lo hi none p2) v (.ref c.heap.objs.size)) (EP X a d Q) X.xe {c with heap:=c.heap.push {cls:=.type "slice",data:=.fields #[f,g,.none]}};exact tail_any (ops:=[.ref c.heap.objs.size,v]) B t y (by with_unfolding_all rfl)
noncomputable def gh(xs:N2)(lo hi:Nu):N2:=(xs.drop (HT.de ⇑xs 0 lo)).take (HT.de ⇑xs ⇑xs hi-HT.de ⇑xs 0 lo)
def Ze(xs:N2)(lo hi:Nu):⇑(gh xs lo hi)<=⇑xs:=by
 unfold gh;rw[vi,List.length_drop];lia
noncomputable def AW(K:cg):V->Option Int->Option Int->Hp->VK->Prop:=λx lo hi H Q=>∃a xs,x = .ref a/\bV K H a xs/\
 ¬(HT.de ⇑xs 0 lo=0/\HT.de ⇑xs ⇑xs hi=⇑xs)/\∀p,H p=none->Q (.ref p) (upd H p (.tup (gh xs lo hi)))
def ua:tY X (AW X.K):=by
 intro k s B H x v z A e f y Q I u l p t h;let⟨a,d,rfl,n,m,q⟩:=h;cases u;let⟨g,r,i,j⟩:=I.tuple n;have c:g.toArray.size=⇑d:=by rw[size_toArray];exact r.length.symm
 refine⟨"tuple",_,PyProof.Rows.slot_tuple_getitem.lookup,i.typeIs,?_⟩;refine HT.kG i l p t (by rw[c];exact m) ?_ (by rw[c];exact j);rw[c];refine⟨.ref s.heap.objs.size,_,I.laid (t':=s.toks) (o:=.tup (gh d e f)) (λb w q=>vJ _ q) (vb _) ?_,rfl,q _ (I.cw.fresh (vb _))⟩;exact⟨vW (Ze d e f) j,_,(r.drop (HT.de ⇑d 0 e)).take (HT.de ⇑d ⇑d f-HT.de ⇑d 0 e),IsTup.new _ _⟩
def sV(K:cg):R2:=λx y H Q=>∃a b xs ys,x = .ref a/\y = .ref b/\bV K H a xs/\bV K H b ys/\xs≠[]/\⇑xs+⇑ys<=sizeLine/\
 (ys=[]->Q (.ref a) H)/\(ys≠[]->∀p,H p=none->Q (.ref p) (upd H p (.tup (xs++ys))))
def Vals.iY{xs:N2}{us:L9}(r:Vals xs us):us=[]↔xs=[]:=by
 cases r with
 | nil=>simp
 | cons _ _=>simp
def HJ:fA X (binaryOp .Add) (sV X.K):=by
 intro f s E H x y v u Q I t A h;let⟨a,b,B,C,rfl,rfl,g,i,j,k,p,r⟩:=h;cases t;cases A;let⟨l,d,m,Z⟩:=I.tuple g;let⟨e,c,n,Z⟩:=I.tuple i;refine HT.Ij m n (λz=>j (d.iY.mp z)) (λz=>⟨.ref a,H,I,rfl,p (c.iY.mp z)⟩) (λz=>?_) (by rw[<-⇑d,<-⇑c];exact k);refine⟨.ref s.heap.objs.size,_,I.laid (t':=s.toks) (o:=.tup (B++C)) (λb D q=>vJ _ q) (vb _) ?_,rfl,r (λw=>z (c.iY.mpr w)) _ (I.cw.fresh (vb _))⟩;exact⟨by simp_all,_,d.append c,IsTup.new _ _⟩
end
noncomputable def lK(n:Nat)(i:Int):Option Nat:=if 0<=i then(if i<n then some i.toNat else none)else if -(n:Int)<=i then some (i+n).toNat else none
noncomputable def d0{α:Type}(xs:List α)(i:Int):Option α:=(lK ⇑xs i).bind λj=>xs[j]?
def CD(h:lK n i=some j):seqIndex? i n=some j/\j<n/\-(n:Int)<=i/\i<n:=by
 unfold lK at h;by_cases b:0<=i
 .rw[vd b]at h;by_cases a:i<n
  .rw[vd a]at h;have e:i.toNat=j:=vL h;exact⟨by rw[seqIndex_of b a,e],⋯,⋯,a⟩
  .rw[vc a]at h;cases h
 .rw[vc b]at h;by_cases a : -(n:Int)<=i
  .rw[vd a]at h;have e:(i+n).toNat=j:=vL h;exact⟨by rw[seqIndex_neg ⋯ a,e],⋯,a,⋯⟩
  .rw[vc a]at h;cases h
def xS{a:Type}{xs:List a}{i:Int}{v:a}(h:d0 xs i=some v):∃j,seqIndex? i ⇑xs=some j/\xs[j]?=some v/\j<⇑xs/\-(⇑xs:Int)<=i/\i<⇑xs:=by
 unfold d0 at h;cases e:lK ⇑xs i with
 | none=>rw[e]at h;cases h
 | some j=>
  rw[e]at h;let⟨b,c,d,f⟩:=CD e;exact⟨j,b,h,c,d,f⟩
def jK{a:Type}{xs:List a}{j:Nat}{v:a}(h:xs[j]?=some v):d0 xs (j:Int)=some v:=by
 have b:j<⇑xs:=(vx.mp h).1;have e:lK ⇑xs (j:Int)=some j:=by
  unfold lK
  simp_all
 unfold d0;rw[e];exact h
def GF{a:Type}(xs:List a)(v:a):d0 (xs++[v]) (-1)=some v:=by
 have b:⇑(xs++[v])=⇑xs+1:=by simp
 have e:lK ⇑(xs++[v]) (-1)=some ⇑xs:=by
  unfold lK;rw[b,vc nofun,vd ⋯];congr 1;lia
 unfold d0
 simp_all
def oq(b:Expr):Prop:=∀o i,subscripted b false o i=operate [o,i] (getItem o i)
def pR(X:Cx)(r:R2):Prop:=
 ∀(value slice:Expr) (pins:Ny) (s:Shared) (σ:St) (H:Hp) (x y:V) (v u:Value) (Q:VK),Inv X pins σ H s->RelV x v->RelV y u->r x y H Q->
  subscripted slice false v u=operate [v,u] (getItem v u)->wpAny (model X.prog X.w) X.A (subscriptTail value slice v u) (EP X pins σ Q) X.xe s
def rX(X:Cx)(id:String)(r:V->N2->Hp->VK->Prop):Prop:=
 ∀(pins:Ny) (s:Shared) (σ:St) (H:Hp) (x:V) (xs:N2) (v:Value) (us:L9) (Q:VK),Inv X pins σ H s->RelV x v->Vals xs us->r x xs H Q->
  wpAny (model X.prog X.w) X.A (call (.builtin id) (v::us)) (EP X pins σ Q) X.xe s
section
variable{X:Cx}{a b:Expr}{ta tb:TE}{pos:Pos}
def jg(i:pR X r)(f:PE X a ta)(g:PE X b tb)(j:oq b:=by exact λZ Z=>rfl):PE X (.Subscript a b pos) (tM r ta tb):=by
 intro c s n H Q I h;exact Subscript_ (qi f g I h λv u m x y d e k l q=>i a b c m n d x y v u Q e k l q (j _ _))
def nK(K:cg):R2:=λx y H Q=>∃p xs i v,x = .ref p/\y = .int i/\bK K H p xs/\d0 xs i=some v/\Q v H
def oH(K:cg):R2:=λx y H Q=>∃p xs i v,x = .ref p/\y = .int i/\bV K H p xs/\d0 xs i=some v/\Q v H
def AR:R2:=λx y H Q=>∃z i c,x = .str z/\y = .int i/\⇑z<=sizeLine/\d0 z.cps.toList i=some c/\Q (.str ⟨#[c]⟩) H
def jw:pR X (nK X.K):=by
 intro l k a s A H x y v u Q I G J h o;let⟨p,P,i,z,rfl,rfl,F,E,q⟩:=h;cases G;let⟨t,rfl⟩:=J;let⟨e,r,f,O⟩:=I.list F;let⟨j,c,B,L,C,D⟩:=xS E;let⟨w,m,g⟩:=r.get B;have M:=⇑r;have N:=gu;have b:EP X a A Q w s:=⟨z,H,I,g,q⟩
 by_cases n:0<=i
 .have d:i.toNat=j:=by
   rw[seqIndex_of n D]at c;exact vL c
  exact item_listR f.isList n ⋯ (by rw[d];simpa using m) b o
 .have d:(i+(e.toArray.size:Int)).toNat=j:=by
   rw[seqIndex_neg ⋯ C]at c
   simp_all
  exact subscriptTail_builtinR (x:=w) f.isList.typeIs slot_list_getitem.lookup
   (wpAny_getItem_list_neg (Q:=λr K=>r=w/\EP X a A Q r K) f.isList ⋯ (by simp_all) ⋯ (by rw[d];simpa using m) ⟨rfl,b⟩) o
def jk:pR X (oH X.K):=by
 intro e d a s g H x y v u Q I B C h o;let⟨p,N,i,z,rfl,rfl,n,m,q⟩:=h;cases B;let⟨t,rfl⟩:=C;let⟨A,r,f,M⟩:=I.tuple n;let⟨j,E,l,F,G,J⟩:=xS m;let⟨w,k,c⟩:=r.get l;have K:=⇑r;have L:=gu;have b:EP X a g Q w s:=⟨z,H,I,c,q⟩
 exact subscriptTail_builtinR (x:=w) f.typeIs slot_tuple_getitem.lookup
  (getItem_tuple (j:=j) (Q:=λr D=>r=w/\EP X a g Q r D) f ⋯ ⋯ (by simp_all) #v[k] ⟨rfl,b⟩) o
def Xq:pR X AR:=by
 intro b a e s E H x y v u Q I r w h p;let⟨z,i,c,rfl,rfl,C,n,q⟩:=h;let⟨t,rfl⟩:=r;let⟨D,rfl⟩:=w;let⟨j,d,k,A,l,m⟩:=xS n;have o:⇑z.cps.toList=⇑z:=by simp[Str.length]
 rw[o]at d l m;have B:=gu;exact tail_any (typeIs_str s z t) slot_str_getitem.lookup (getItem_str (c:=c) (by
  have f:decide (i < -(2^63:Int))=false:=vH ⋯;have g:decide (i>=2^63)=false:=vH ⋯;rw[f,g,Bool.or_false]) (by rw[d];simpa using k) ⟨.str ⟨#[c]⟩,H,I.tok _,⟨_,rfl⟩,q⟩) p
def Eu(a:L9)(n j:Nat)(u:Value):Obj.mapSeq (·.setIfInBounds j u) {cls:=.type "list",data:=.seq a.toArray n}={cls:=.type "list",data:=.seq (a.set j u).toArray n}:=by
 simp[Obj.mapSeq]
def Inv.lst{b:St}{H:Hp}(I:Inv X pins b H s)(h:H p=some (.lst xs)) :
  ∃(a:L9) (n:Nat),Vals xs a/\s.heap.get? p=some {cls:=.type "list",data:=.seq a.toArray n}/\⇑xs<=sizeLine:=by
 let⟨z,a,n,r,e⟩:=I.cw p _ h;exact⟨a,n,r,e,z⟩
def Inv.rk{a:Ny}{i:St}{H:Hp}{s:Shared}{p:Addr}{xs ys:N2}{c its':L9}{n d:Nat}{f:Obj->Obj}(I:Inv X a i H s)(h:H p=some (.lst xs))
  (k:s.heap.get? p=some {cls:=.type "list",data:=.seq c.toArray n}) (g:f {cls:=.type "list",data:=.seq c.toArray n}={cls:=.type "list",data:=.seq its'.toArray d}) (r:Vals ys its') (hz:⇑ys<=sizeLine) (t:Nat) :
  Inv X a i (upd H p (.lst ys)) {s with heap:=s.heap.update p f,toks:=t}:=by
 have e:(s.heap.update p f).get? p=some {cls:=.type "list",data:=.seq its'.toArray d}:=by
  rw[Heap.get?_update_self f k (by rw[g]<;>rfl),g]
 refine I.write (x:=p) (e:=p) (by rw[h];trivial) (.inl rfl) (λb u j q=>(Heap.get?_update_other _ _ (Ne.symm j)).trans q) ⟨_,e⟩ ?_;exact⟨hz,its',d,r,e⟩
noncomputable def sW:V->V->V->Hp->(Hp->Prop)->Prop:=λo i v H Q=>∃p xs k j,o = .ref p/\i = .int k/\H p=some (.lst xs)/\lK ⇑xs k=some j/\Q (upd H p (.lst (xs.set j v)))
def set_list:pW X sW:=by
 intro b s C H o i v ov J u Q I z y A h;let⟨p,B,k,j,rfl,rfl,l,x,q⟩:=h;cases z;let⟨t,rfl⟩:=y;let⟨a,n,r,e,G⟩:=I.lst l;let⟨c,D,m,w⟩:=CD x;have E:=⇑r;have F:=gu;have f:Inv X b C (upd H p (.lst (B.set j v))) {s with heap:=s.heap.update p (Obj.mapSeq (·.setIfInBounds j u))}:=
  I.rk l e (Eu a n j u) (r.set A j) (by simp_all) s.toks
 by_cases g:0<=k
 .have d:k.toNat=j:=by
   rw[seqIndex_of g w]at c;exact vL c
  exact PySem.W.ki_setAt e g ⋯ (by simp_all) (by rw[d];exact⟨_,f,q⟩)
 .have d:(k+(a.toArray.size:Int)).toNat=j:=by
   rw[seqIndex_neg ⋯ m]at c
   simp_all
  exact PySem.W.ki_setBack e ⋯ (by simp_all) ⋯ (by rw[d];exact⟨_,f,q⟩)
def Ef(lo hi:Nu)(n:Nat):(sliceBounds lo hi none n).1=((HT.de n 0 lo:Nat):Int)/\(sliceBounds lo hi none n).2.1=((HT.de n n hi:Nat):Int)/\(sliceBounds lo hi none n).2.2=1:=by
 refine⟨?_,?_,rfl⟩
 .cases lo with
  | none=>simp[sliceBounds,HT.de]
  | some i=>
   simp only[sliceBounds,HT.de,Option.getD_none,show(1:Int)>0 by decide,if_true];by_cases h:i<0
   .simp only[h,if_true]<;>lia
   .simp only[h,if_false]<;>lia
 .cases hi with
  | none=>simp[sliceBounds,HT.de]
  | some i=>
   simp only[sliceBounds,HT.de,Option.getD_none,show(1:Int)>0 by decide,if_true];by_cases h:i<0
   .simp only[h,if_true]<;>lia
   .simp only[h,if_false]<;>lia
def WP(a:L9)(lo hi:Nu):slicePick a.toArray lo hi none=((a.drop (HT.de ⇑a 0 lo)).take (HT.de ⇑a ⇑a hi-HT.de ⇑a 0 lo)).toArray:=by
 let⟨b,c,d⟩:=Ef lo hi a.toArray.size;unfold slicePick;rw[b,c,d];simp only[sliceRange_one,pick_run,size_toArray]<;>rfl
noncomputable def AV(K:cg):V->Option Int->Option Int->Hp->VK->Prop:=λx lo hi H Q=>∃a xs,x = .ref a/\bK K H a xs/\∀p,H p=none->Q (.ref p) (upd H p (.lst (gh xs lo hi)))
def Cg:tY X (AV X.K):=by
 intro i s A H x v y z e f w Q I t j n p h;let⟨a,c,rfl,k,q⟩:=h;cases t;let⟨m,r,g,l⟩:=I.list k;have d:=⇑r;refine⟨"list",_,slot_list_getitem.lookup,g.isList.typeIs,?_⟩;refine wpAny_getItem_list_slice g.isList j n p .none (by simp) ?_ (by simp_all);rw[WP,<-d];refine⟨.ref s.heap.objs.size,_,I.laid (t':=s.toks) (o:=.lst (gh c e f)) (λb u q=>vJ _ q) (vb _) ?_,rfl,q _ (I.cw.fresh (vb _))⟩;exact⟨vW (Ze c e f) l,_,0,(r.drop (HT.de ⇑c 0 e)).take (HT.de ⇑c ⇑c f-HT.de ⇑c 0 e),Heap.get?_push_size _ rfl⟩
noncomputable def dU:V->Bool
 | .cE=>true
 | .bl _=>true
 | .int _=>true
 | .str _=>true
 | _=>false
noncomputable def me:V->V->Bool
 | .cE,.cE=>true
 | .bl a,.bl b=>a==b
 | .bl a,.int b=>(if a then 1 else 0)==b
 | .int a,.bl b=>a==(if b then 1 else 0)
 | .int a,.int b=>a==b
 | .str a,.str b=>a==b
 | _,_=>false
def LC(f:RelV y u)(c:RelV x v)(g:dU y=true)(e:dU x=true):SeqAt.EqAt A s u v (me y x):=by
 cases y with
 | cE=>
  cases f;cases x with
  | cE=>cases c;exact SeqAt.EqAt.same _
  | bl b=>cases c;exact SeqAt.EqAt.none_bool b
  | int b=>let⟨t,rfl⟩:=c;exact SeqAt.EqAt.none_int b t
  | str b=>let⟨t,rfl⟩:=c;exact SeqAt.EqAt.none_str b t
  | _=>exact uf (show false=true from e) vF
 | bl a=>
  cases f;cases x with
  | cE=>cases c;exact SeqAt.EqAt.bool_none a
  | bl b=>cases c;exact SeqAt.EqAt.bool_bool a b
  | int b=>let⟨t,rfl⟩:=c;exact SeqAt.EqAt.bool_int a b t
  | str b=>let⟨t,rfl⟩:=c;exact SeqAt.EqAt.bool_str a b t
  | _=>exact uf (show false=true from e) vF
 | int a=>
  let⟨d,rfl⟩:=f;cases x with
  | cE=>cases c;exact SeqAt.EqAt.int_none a d
  | bl b=>cases c;exact SeqAt.EqAt.int_bool a d b
  | int b=>let⟨t,rfl⟩:=c;exact SeqAt.EqAt.int_int a d b t
  | str b=>let⟨t,rfl⟩:=c;exact SeqAt.EqAt.int_str a d b t
  | _=>exact uf (show false=true from e) vF
 | str a=>
  let⟨d,rfl⟩:=f;cases x with
  | cE=>cases c;exact SeqAt.EqAt.str_none a d
  | bl b=>cases c;exact SeqAt.EqAt.str_bool a d b
  | int b=>let⟨t,rfl⟩:=c;exact SeqAt.EqAt.str_int a d b t
  | str b=>let⟨t,rfl⟩:=c;exact SeqAt.EqAt.str_str a d b t
  | _=>exact uf (show false=true from e) vF
 | _=>exact uf (show false=true from g) vF
noncomputable def lJ(x:V)(u:Value):Bool:=match u with
 | .none=>me .cE x
 | .bool b=>me (.bl b) x
 | .int i _=>me (.int i) x
 | .str z _=>me (.str z) x
 | _=>false
def Xj(r:RelV y u)(f:dU y=true):lJ x u=me y x:=by
 cases y with
 | cE=>cases r;rfl
 | bl b=>cases r;rfl
 | int i=>let⟨t,rfl⟩:=r;rfl
 | str z=>let⟨t,rfl⟩:=r;rfl
 | _=>exact uf (show false=true from f) vF
theorem kB:∀{xs:N2} {us:L9},Vals xs us->xs.all dU=true->us.any (lJ x)=xs.any λy=>me y x
 | _,_,.nil,_=>rfl
 | y::xs,u::us,.cons r t,f=>by
  rw[all_cons,Bool.and_eq_true]at f;rw[any_cons,any_cons,Xj r f.1,kB t f.2]
theorem ZH(c:RelV x v)(b:dU x=true):∀{xs:N2} {us:L9},Vals xs us->xs.all dU=true->∀u∈us,SeqAt.EqAt A s u v (lJ x u)
 | _,_,.nil,_=>λu a=>by cases a
 | y::xs,u::us,.cons r t,f=>λd a=>by
  rw[all_cons,Bool.and_eq_true]at f;rcases mem_cons.mp a with rfl | a
  .rw[Xj r f.1];exact LC r c f.1 b
  .exact ZH c b t f.2 d a
noncomputable def mN(x:V)(xs:N2):Bool:=xs.any λy=>me y x
def AQ(K:cg)(neg:Bool):R2:=λx y H Q=>∃p xs,y = .ref p/\(bK K H p xs\/bV K H p xs)/\dU x=true/\xs.all dU=true/\Q (.bl (if neg then !mN x xs else mN x xs)) H
def YI:fA X (compareOp .In) (AQ X.K false):=by
 intro g s m H x y v u Q I i k h;let⟨p,l,rfl,b,f,c,q⟩:=h;cases k;rcases b with b | b
 .let⟨a,r,e,j⟩:=I.list b;refine SeqAt.in_listAt (lJ x) e.isList (λw d=>ZH i f r c w #v[d]) ⟨.bl _,H,I,rfl,?_⟩;rw[show a.toArray.any (lJ x)=a.any (lJ x) by simp,kB r c];exact q
 .let⟨a,r,e,j⟩:=I.tuple b;refine SeqAt.in_tupleAt (lJ x) e (λw d=>ZH i f r c w #v[d]) ⟨.bl _,H,I,rfl,?_⟩;rw[show a.toArray.any (lJ x)=a.any (lJ x) by simp,kB r c];exact q
def XT:fA X (compareOp .NotIn) (AQ X.K true):=by
 intro g s m H x y v u Q I i k h;let⟨p,l,rfl,b,f,c,q⟩:=h;cases k;rcases b with b | b
 .let⟨a,r,e,j⟩:=I.list b;refine SeqAt.notIn_listAt (lJ x) e.isList (λw d=>ZH i f r c w #v[d]) ⟨.bl _,H,I,rfl,?_⟩;rw[show a.toArray.any (lJ x)=a.any (lJ x) by simp,kB r c];exact q
 .let⟨a,r,e,j⟩:=I.tuple b;refine SeqAt.notIn_tupleAt (lJ x) e (λw d=>ZH i f r c w #v[d]) ⟨.bl _,H,I,rfl,?_⟩;rw[show a.toArray.any (lJ x)=a.any (lJ x) by simp,kB r c];exact q
def zi:cV X (.type "list") (λxs H Q=>∃p ys,xs=[.ref p]/\(bK X.K H p ys\/bV X.K H p ys)/\∀l,H l=none->Q (.ref l) (upd H l (.lst ys))):=by
 intro t s B H xs C Q I r h;let⟨p,ys,rfl,j,q⟩:=h;let⟨u,rfl,A⟩:=vals1 r;cases A;have g:∀(a:L9),Vals ys a->⇑ys<=sizeLine->∀(c:Heap) (d:Nat),(∀b z,s.heap.get? b=some z->c.get? b=some z)->
   c.get? s.heap.objs.size=some {cls:=.type "list",dict:=none,data:=.seq a.toArray d,slots:=#[]}->EP X t B Q (.ref s.heap.objs.size) {s with heap:=c}:=λa f k c d m e=>
  ⟨.ref s.heap.objs.size,_,I.laid (t':=s.toks) m (vb _) (show cf X.prog X.w _ c _ (.lst ys)from⟨k,a,d,f,e⟩),rfl,q _ (I.cw.fresh (vb _))⟩
 rcases j with j | j
 .let⟨a,f,y,k⟩:=I.list j;have i:=⇑f;let⟨o,x,v,n,w⟩:=y.isList;exact call_list_seq p (.inl rfl) x v w (λc d m e=>g a f k c d m e) (by simp_all)
 .let⟨a,f,y,k⟩:=I.tuple j;have i:=⇑f;let⟨o,x,v,n,w⟩:=y;exact call_list_seq p (.inr rfl) x v w (λc d m e=>g a f k c d m e) (by simp_all)
def qu:cV X (.type "tuple") (λxs H Q=>∃p ys,xs=[.ref p]/\((bK X.K H p ys/\∀l,H l=none->Q (.ref l) (upd H l (.tup ys)))\/(bV X.K H p ys/\Q (.ref p) H))):=by
 intro a s n H xs x Q I r h;let⟨p,ys,rfl,h⟩:=h;let⟨u,rfl,w⟩:=vals1 r;cases w;rcases h with⟨f,q⟩ | ⟨f,q⟩
 .let⟨c,i,g,m⟩:=I.list f;have k:=⇑i;refine call_tuple_list g.isList (λd v=>?_) (by simp_all);have j:Inv X a n H {s with heap:=d}:=I.kept (t':=s.toks) v;have t:Inv X a n (upd H d.objs.size (.tup ys)) {s with heap:=d.push {cls:=.type "tuple",data:=.seq c.toArray}}:=
   j.laid (t':=s.toks) (λb o e=>vJ _ e) (vb _) (show cf X.prog X.w _ _ _ (.tup ys)from⟨m,c,i,IsTup.new _ _⟩)
  exact⟨.ref d.objs.size,_,t,rfl,q _ (j.cw.fresh (vb _))⟩
 .let⟨c,i,g,m⟩:=I.tuple f;exact call_tuple_same g ⟨.ref p,H,I,rfl,q⟩
def tU(K:cg)(T:String)(x:V)(H:Hp):Prop:=match x with
 | .str _=>T = "str"
 | .int _=>T = "int"
 | .ref p=>(T = "list"/\∃xs,bK K H p xs)\/(T = "tuple"/\∃o,K.lookup p=some o/\o.cls = .type "tuple"/\o.dict=none)\/
   (T = "dict"/\((∃kvs,H p=some (.dK kvs))\/∃kvs,H p=some (.dT kvs)))\/(T = "set"/\∃S n,H p=some (.set S n))
 | _=>False
def DL{w:St}{H:Hp}(I:Inv X pins w H s)(r:RelV x v)(f:tU X.K T x H) :
  s.TypeIs v T/\∀a,v = .ref a->∃k,s.heap.get? a=some k/\k.dict=none:=by
 cases x with
 | str z=>
  let⟨t,rfl⟩:=r;cases(show T = "str" from f);exact⟨typeIs_str s z t,λZ e=>nomatch e⟩
 | int i=>
  let⟨t,rfl⟩:=r;cases(show T = "int" from f);exact⟨typeIs_int s i t,λZ e=>nomatch e⟩
 | ref p=>
  cases r;rcases f with⟨rfl,y,q⟩ | ⟨rfl,o,b,m,h⟩ | ⟨rfl,b⟩ | ⟨rfl,S,n,b⟩
  .let⟨u,_,l,_⟩:=I.list q;refine⟨l.isList.typeIs,λa e=>?_⟩;cases e;let⟨o,n,e,c,h,Z⟩:=l;exact⟨o,e,h⟩
  .refine⟨⟨o,I.gQ p o b,m⟩,λa e=>?_⟩;cases e;exact⟨o,I.gQ _ o b,h⟩
  .have z:∃o,s.heap.get? p=some o/\o.ExactDict:=by
    rcases b with⟨j,b⟩ | ⟨j,b⟩
    .let⟨_,_,_,_,o,_,_,e,d,_⟩:=I.cw p _ b;exact⟨o,e,d⟩
    .let⟨_,_,_,_,o,_,_,e,d,_⟩:=I.cw p _ b;exact⟨o,e,d⟩
   let⟨o,e,d⟩:=z;refine⟨⟨o,e,d.1⟩,λa g=>?_⟩;cases g;exact⟨o,e,d.2.1⟩
  .let⟨o,_,_,_,e,d,_⟩:=I.cw p _ b;refine⟨⟨o,e,d.1⟩,λa g=>?_⟩;cases g;exact⟨o,e,d.2.1⟩
 | _=>exact False.elim f
def tG(K:cg)(T:String)(r:V->N2->Hp->VK->Prop)(to:TE):TE:=λσ H Q=>to σ H λx H1=>tU K T x H1/\r x [] H1 Q
def DZ(K:cg)(T:String)(r:V->N2->Hp->VK->Prop)(to:TE)(t:TA):TE:=λσ H Q=>to σ H λx H1=>tU K T x H1/\t σ H1 λxs H2=>r x xs H2 Q
variable{o e:Expr}{es:Nt}{to:TE}{t:TA}{name:Str}{apos cpos:Pos}{T id:String}{r:V->N2->Hp->VK->Prop}
def DH(p:PlainAttrs T)(d:Slot T name id)(e:typeOf (.builtin id)=pure (.type "method_descriptor"))(m:rX X id r)(n:PE X o to)
  (b:attributeBase o name X.env (eval o X.env)=eval o X.env:=by rfl) (c:(apos.endLine==cpos.line)=true:=by rfl):PE X (.Call (.Attribute o name apos) [] [] cpos) (tG X.K T r to):=by
 intro a s i H Q I h;refine wpAny_Call_method0_late b c (cv (n a s i H _ I h) λv t z_=>?_);obtain⟨x,j,f,g,u,q⟩:=z_;let⟨k,l⟩:=DL f g u;exact⟨T,id,p,d,e,k,l,Calls.callWith_builtin rfl (PySem.evalArgs_none (m a t i j x [] v [] Q f g .nil q))⟩
def Jy(C:PlainAttrs T)(g:Slot T name id)(i:typeOf (.builtin id)=pure (.type "method_descriptor"))(z:rX X id r)(A:PE X o to)(y:PA X (e::es) t)
  (c:attributeBase o name X.env (eval o X.env)=eval o X.env:=by rfl)
  (f:((backTo cpos (starEach (e::es) X.env)).all (λx=>!x.1)&&(backToKw cpos (keywordEach [] X.env)).all (λx=>x.1.isSome)
   && decide (⇑(e::es)+⇑([]:List Keyword)+(if([]:List Keyword).isEmpty then 0 else 1)<30))=true:=by rfl)
  (d:(apos.endLine==cpos.line)=true:=by rfl) (B:starEach (e::es) X.env=(false,eval e X.env)::starEach es X.env:=by rfl) (b:(backTo cpos (starEach es X.env)).any (·.1)=false:=by rfl) :
  PE X (.Call (.Attribute o name apos) (e::es) [] cpos) (DZ X.K T r to t):=by
 intro a s j H Q I h;refine wpAny_Call_method_late c f d rfl (cv (A a s j H _ I h) λv G z_=>?_);obtain⟨x,n,k,m,K,D⟩:=z_;let⟨u,w⟩:=DL k m K;refine⟨T,id,C,g,i,u,w,?_⟩;have l:=y cpos a G j n _ k D;rw[B]at l|-;refine Calls.callWith_builtin (by show(false||(backTo cpos (starEach es X.env)).any (·.1))=false;rw[b]<;>rfl) (Calls.evalArgs_plain ?_);refine cv l λL J z_=>?_;let⟨M,p,q,F,E⟩:=z_;exact z a J j p x M v L Q q m F E
end
def uR(X:Cx)(id:String)(r:V->N2->Hp->VK->Prop):Prop:=
 ∀(pins:Ny) (s:Shared) (σ:St) (H:Hp) (x:V) (xs:N2) (v:Value) (us:L9) (Q:VK),Inv X pins σ H s->RelV x v->Vals xs us->r x xs H Q->
  wpAny (model X.prog X.w) X.A (call (.builtin id) (v::us)) (EP X pins σ Q) X.xe s
def Vals.one:∀{x:V} {us:L9},Vals [x] us->∃u,us=[u]/\RelV x u:=by
 intro x us h;cases h with
 | cons r t=>
  cases t;exact⟨_,rfl,r⟩
def Vals.zero:∀{us:L9},Vals [] us->us=[]
 | _,.nil=>rfl
def Vals.dropLast{xs:N2}{us:L9}(h:Vals xs us):Vals xs.dropLast us.dropLast:=by
 induction h with
 | nil=>exact .nil
 | cons r t ih=>
  cases t with
  | nil=>exact .nil
  | cons q t'=>exact .cons r ih
def MD{a:Type}(l:List a):l.eraseIdx (⇑l-1)=l.dropLast:=by
 simp_all
section
variable{X:Cx}{pins:Ny}{σ:St}{H:Hp}{s:Shared}{l b:Addr}{xs ys zs:N2}
def Inv.rj{a its':L9}{n:Nat}{f:Array Value->Array Value}{t':Nat}(I:Inv X pins σ H s)(b:H l=some (.lst xs))
  (e:s.heap.get? l=some {cls:=.type "list",data:=.seq a.toArray n}) (d:f a.toArray=its'.toArray) (h:Vals ys its') (hz:⇑ys<=sizeLine) :
  Inv X pins σ (upd H l (.lst ys)) {s with heap:=s.heap.update l (Obj.mapSeq f),toks:=t'}:=by
 have q:=PySem.IsL.update e f;rw[d]at q;refine I.write (x:=l) (e:=l) (by rw[b];exact trivial) (.inl rfl) (λi u c g=>(Heap.get?_update_other s.heap (Obj.mapSeq f) (Ne.symm c)).trans g) ⟨_,q⟩ ?_;exact⟨hz,its',_,h,q⟩
def Inv.AJ(I:Inv X pins σ H s)(a:Vals ys its)(hz:⇑ys<=sizeLine) :
  Inv X pins σ (upd H s.heap.objs.size (.lst ys)) {s with heap:=s.heap.push {cls:=.type "list",data:=.seq its.toArray},toks:=t'}:=
 I.laid (λj j q=>vJ _ q) (vb _) ⟨hz,its,0,a,Heap.get?_push_size _ rfl⟩
def Inv.fresh(I:Inv X pins σ H s):H s.heap.objs.size=none:=I.cw.fresh (vb _)
def Inv.lB(I:Inv X pins σ H s)(b:H l=some (.lst xs)):⇑xs<=sizeLine/\∃(a:L9) (n:Nat),Vals xs a/\⇑xs=⇑a/\s.heap.get? l=some {cls:=.type "list",data:=.seq a.toArray n}:=by
 let⟨z,a,n,r,e⟩:=I.cw l _ b;exact⟨z,a,n,r,⇑r,e⟩
def nI(h:n<=sizeLine):Builtin.List.listTooLong n=false:=by
 unfold Builtin.List.listTooLong;exact vH ⋯
end
section
variable{X:Cx}
noncomputable def oC:V->N2->Hp->VK->Prop:=λx vs H Q=>∃l xs y,x = .ref l/\vs=[y]/\H l=some (.lst xs)/\⇑xs<sizeLine/\Q .cE (upd H l (.lst (xs++[y])))
def jH:uR X "list.append" oC:=by
 intro c s p H x m v k Q I g f h;let⟨l,o,y,rfl,rfl,b,j,q⟩:=h;cases g;let⟨u,rfl,d⟩:=f.one;let⟨z,a,n,r,i,e⟩:=I.lB b;refine call_meets F.slot_list_append ⟨_,e,rfl⟩ F.entry_list_append (F.args_list_append_2 _ _) (PySem.list_append l a.toArray n u (by rw[size_toArray];lia)) ⟨e,?_⟩;refine⟨.cE,_,I.rj (its':=a++[u]) b e (by simp) (r.append (.cons d .nil)) ?_,rfl,q⟩;rw[vn,vS];lia
noncomputable def oD:V->N2->Hp->VK->Prop:=λx vs H Q=>∃l b xs zs,x = .ref l/\vs=[.ref b]/\H l=some (.lst xs)/\H b=some (.lst zs)/\⇑xs+⇑zs<=sizeLine/\Q .cE (upd H l (.lst (xs++zs)))
def E3:uR X "list.extend" oD:=by
 intro i s K H x D v C Q I y w h;let⟨l,b,E,J,rfl,rfl,g,k,B,q⟩:=h;cases y;let⟨u,rfl,t⟩:=w.one;cases t;let⟨z,c,n,r,A,e⟩:=I.lB g;let⟨G,a,o,p,m,j⟩:=I.lB k;have f:c.toArray.size+a.toArray.size<=sizeLine:=by simp_all
 have d:¬(!c.toArray.isEmpty&&Builtin.List.listTooLong (c.toArray.size+a.toArray.size))=true:=by
  rw[nI f,Bool.and_false];exact vF
 refine call_meets F.slot_list_extend ⟨_,e,rfl⟩ F.entry_list_extend (F.args_list_extend_2 _ _)
  (AutoSeq1.list_extend_list_list_0 l c.toArray n b a.toArray o d (by rw[size_toArray];lia) ⋯) ⟨e,j,?_⟩
 refine⟨.cE,_,I.rj (its':=c++a) g e (by simp) (r.append p) ?_,rfl,q⟩;rw[vn];lia
noncomputable def AU:V->N2->Hp->VK->Prop:=λx vs H Q=>∃l xs y,x = .ref l/\vs=[]/\H l=some (.lst xs)/\xs[⇑xs-1]?=some y/\Q y (upd H l (.lst xs.dropLast))
def Jk:uR X "list.pop" AU:=by
 intro f s A H x t v p Q I k j h;let⟨l,w,y,rfl,rfl,d,g,q⟩:=h;cases k;have b:=j.zero;subst b;let⟨z,a,n,r,m,e⟩:=I.lB d;let⟨u,o,i⟩:=r.get g;have c:a.toArray[a.toArray.size-1]?=some u:=by
  simp_all
 refine call_meets F.slot_list_pop ⟨_,e,rfl⟩ F.entry_list_pop (F.args_list_pop_1 _) (MeetsSeq.list_pop_last l a.toArray n u c (by rw[size_toArray];lia)) ⟨e,?_⟩;refine⟨y,_,I.rj (its':=a.dropLast) d e ?_ r.dropLast ?_,i,q⟩
 .simp_all
 .rw[List.length_dropLast];lia
def AN:R2:=λx y H Q=>∃l b xs zs,x = .ref l/\y = .ref b/\H l=some (.lst xs)/\H b=some (.lst zs)/\⇑xs+⇑zs<=sizeLine/\∀p,H p=none->Q (.ref p) (upd H p (.lst (xs++zs)))
def Y8:fA X (binaryOp .Add) AN:=by
 intro d s E H x y v u Q I o p h;let⟨l,b,B,D,rfl,rfl,j,i,w,q⟩:=h;cases o;cases p;let⟨z,c,n,r,t,e⟩:=I.lB j;let⟨C,a,A,m,k,f⟩:=I.lB i;refine PySem.P.add_list e f ?_ (by simp_all);have g:c.toArray++a.toArray=(c++a).toArray:=by simp
 rw[g];exact⟨.ref _,_,I.AJ (t':=s.toks) (r.append m) (by rw[vn];lia),rfl,q _ I.fresh⟩
end
end L2
namespace Att
open PySem PySem.W PySem.Calls PyProof.Rows
def K0:∀(c:L5) (vs:L9),WellAll P h vs (c.map WData.int)->IntsAre vs c:=by
 intro c
 induction c with
 | nil=>
  intro vs w;rw[map_nil]at w;cases w;exact .nil
 | cons n c ih=>
  intro vs w;rw[v9]at w;cases w with
  | cons a b=>
   cases a;exact .cons _ _ (ih _ b)
def Fq{l:OpenLaw}{n:Nat}(q:l.most=some n){P:Params}{h:Heap}{args:List WData}{e:L9}
  (b:l.row.toRowW.claim.pre args=true) (j:WellAll P h e args) :
  ∃a vs c,e=[Value.ref a]/\args=[WData.list (c.map WData.int)]/\h.get? a=some {cls:=.type "list",data:=.seq vs.toArray}/\IntsAre vs c/\⇑c<=n:=by
 have i:WShape.hasAll [] args [.list .int]=true:=(pre_splitW b).1;have k:l.pre.holds [] {args:=args}=true:=(pre_splitW b).2;let⟨d,r,rfl,m,o⟩:=hasAllW_cons i;obtain rfl:=hasAllW_nil o;let⟨t,rfl,p⟩:=hasW_list m;let⟨c,rfl⟩:=items_int p;have f:⇑c<=n:=by
  unfold OpenLaw.pre at k;have g:(WTm.not (.lt (.lit (.int (n:Int))) (.len (.arg 0)))).holds [] {args:=[.list (c.map .int)]}=true:=by
   have g:=(holds_andW k).1;rw[q]at g;exact g
  have s:=condW_of g (w_not (w_lt w_lit (w_len_list (w_arg rfl))))
  simp_all
 cases j with
 | cons w1 w2=>
  cases w2;cases w1 with
  | list ho hall=>exact⟨_,_,c,rfl,rfl,ho,K0 c _ hall,f⟩
def Ff(l:OpenLaw)(args:List WData):l.row.toRowW.claim.post args (.bool true) args=true:=
 postW_of (r:=l.row.toRowW) (X:=(true==true))
  (show WShape.has [] (.bool true) .bool=true by first | rfl | decide | simp[WShape.has,WShape.arms,WShape.armsAll])
  (show(WTm.eq .res (.lit (.bool true))).value [] {args:=args,res:=some (.bool true),after:=args}=some (.bool (true==true))from w_eq_bool (w_res rfl) w_lit) rfl
end Att
namespace L2
open PySem PySem.Spec PyProof.Rows
theorem xH:∀{vs:L9} {a:L5},IntsAre vs a->Vals (a.map V.int) vs
 | _,_,.nil=>.nil
 | _,_,.cons n t h=>.cons ⟨t,rfl⟩ (xH h)
def pV(H:Hp):Prop:=∀b,H b=none\/∃o xs,H b=some (.lU o (.lst xs))
def Gp{P:Program}{w:World}{K:cg}{G S:Nw}{CX:mZ}{k:Nat}{fa a:Addr}{X:FuncData}{x:Str}{sp:Sp}{c:Shared}{vs:L9}{I:L5}
  (W:K.In c.heap) (B:c.heap.Ns mainGlobals G) (g:c.heap.Ns builtinsNs S) (O:∀x:Str,x≠"__name__"->S x=bootBuiltins x) (y:c.heap.NoLimit) (hg:c.gens = #[])
  (N:c.heap.get? a=some {cls:=.type "list",data:=.seq vs.toArray}) (hi:IntsAre vs I) (hl:⇑I<=sizeLine) (hr:di k callerA)
  (F:∀base:Heap,K.In base->base.Ns mainGlobals G->eJ P w K G base CX k fa X [x] sp) (l:∀(s:Shared) (u:Value),BindsTo s X ⟨[u],[]⟩ [(x,u)])
  (R:∀H:Hp,pV H->bK K H a (I.map V.int)->sp [.ref a] H (λv _=>v = .bl true) λ_ _ _=>False)
  (M:∀H e s',CX [] H c (λ_ _ _=>False) e s'->False) :
  codeAny (model P w) callerA (.call (.ref fa) ⟨[.ref a],[]⟩) (λr s'=>r = .ok (.ret (.bool true))/\OldK c.heap s'.heap/\s'.os=c.os/\AllBare s'.gens) c:=by
 have rv:=xH hi;have Z:=⇑hi;have j:∀H:Hp,pV H->bK K H a (I.map V.int)->eN P w H c.heap->(∀b,H b≠none->b=a)->(H a≠none->K.lookup a=none)->
   codeAny (model P w) callerA (.call (.ref fa) ⟨[.ref a],[]⟩) (λr s'=>r = .ok (.ret (.bool true))/\OldK c.heap s'.heap/\s'.os=c.os/\AllBare s'.gens) c:=by
  intro H Y hS C hA hK;have f:∀{b:Addr} {o:Obj},c.heap.get? b=some o->H b=none->(iX c.heap H).get? b=some o:=λe n=>Gk e n
  have T:∀{b:Addr} {o:Obj} {L:Array DictEntry} {J:Nat},c.heap.get? b=some o->o.data = .dict L J->H b=none:=λ{b o L J} e d=>by
   grind
  have i:∀{b:Addr} {m:Nw},c.heap.Ns b m->(iX c.heap H).Ns b m:=λ{b m} ⟨o,L,J,e,d,r⟩=>⟨o,L,J,f e (T e d),d,r⟩
  have t:K.In (iX c.heap H):=λb o e=>f (W b o e) (by
   grind)
  have hM:Mod K G (iX c.heap H):=⟨t,i B,⟨S,i g,O⟩,let ⟨mc,h1,h2⟩:=y;⟨mc,i h1,h2⟩⟩
  have e0:lP P w K G (iX c.heap H) callerA [] c H:=⟨rfl,hM,λb o e=>HF e,Nat.le_of_eq (FR _ _),trivial,λb g=>uf (show b∈([]:L7)from g) (by simp),C,.of_eq hg⟩
  refine codeAny_mono ((F _ t (i B)).run callerA [] c H ⟨[.ref a],[]⟩ [.ref a] [.ref a] _ _ hr e0 (l c (.ref a)) (.cons rfl .nil) (R H Y hS)) λr s' h=>?_
  cases r with
  | error e=>exact(M H e s' h).elim
  | ok fl=>
   cases fl with
   | next=>exact False.elim h
   | brk=>exact False.elim h
   | cont=>exact False.elim h
   | ret u=>
    let⟨v,H',os,p,un,D,r',q⟩:=h;have q':v = .bl true:=q;subst q';obtain rfl:u=Value.bool true:=r';refine⟨rfl,OldK.of_keep λb o e=>?_,os,p⟩;cases q:H b with
    | none=>exact un.keep b o e q (by intro z;exact uf (show b∈([]:L7)from z) (by simp)) (by simp)
    | some u=>
     rcases Y b with z | ⟨ob,xs,z⟩
     .rw[q]at z;cases z
     .have z2:=un.iW b ob _ z;let⟨e1,_⟩:=C b _ z;let⟨e2,_⟩:=D b _ z2
      lia
 cases hk:K.lookup a with
 | some o=>
  have e:=W a o hk;rw[N]at e;cases e;refine j (λ_=>none) (λ_=>.inl rfl) (.inr ⟨_,vs.toArray,_,hk,rfl,rfl,rfl,by simp_all,#v[rv]⟩) (λb u z=>⋯) (λb z=>uf rfl z) λz=>uf rfl z
 | none=>
  refine j (λb=>if b=a then some (.lU {cls:=.type "list",data:=.seq vs.toArray} (.lst (I.map V.int)))else none) (λb=>?_) (.inl (.inr ⟨{cls:=.type "list",data:=.seq vs.toArray},vd rfl⟩)) (λb u z=>?_) (λb z=>?_) λ_=>hk
  .by_cases g:b=a
   .exact .inr ⟨_,_,vd g⟩
   .exact .inl (vc g)
  .by_cases g:b=a
   .have U:=(vd g).symm.trans z;cases U;subst g;exact⟨N,by simp_all,vs,_,rv,N⟩
   .have U:=(vc g).symm.trans z;cases U
  .by_cases g:b=a
   .exact g
   .exact uf (vc g) z
noncomputable abbrev KOf{K:cg}{h:Heap}(_:K.In h):cg:=K
noncomputable def inClass(s:Stmt)(j:Nat):Stmt:=match s with
 | .ClassDef _ _ _ body _ _ _ _ _ _ _=>body.getD j (.Pass ⟨0,0,0,0⟩)
 | _=>.Pass ⟨0,0,0,0⟩
noncomputable def dh(s:Stmt):Arguments:=match s with
 | .FunctionDef _ a _ _ _ _ _ _ _ _=>a
 | _=>{posonlyargs:=[],args:=[],vararg:=none,kwonlyargs:=[],kw_defaults:=[],kwarg:=none,defaults:=[]}
noncomputable def cY(s:Stmt):List Stmt:=match s with
 | .FunctionDef _ _ b _ _ _ _ _ _ _=>b
 | _=>[]
noncomputable def bG(s:Stmt):Scope:=match s with
 | .FunctionDef _ _ _ _ _ _ sc _ _ _=>sc
 | _=>{kind:=.function,names:=[],isGenerator:=false,isCoroutine:=false}
noncomputable abbrev oK:mZ:=λq q q q q q=>False
noncomputable abbrev E0:XK:=λq q q=>False
def c8:Passes oK X E0:=λq q q q q q q h=>h.elim
structure eK(K:cg)(x qual:Str)(st:Stmt)(f:Addr)(fd:FuncData):Prop where
 ex:∃(oc:Value) (od:Option Addr) (kV doc pm:Value) (an:Option Addr) (cdv ct:Value) (Mj:Array (Nv)),
  fd=PySem.W.fnOf x qual (dh st) (cY st) (bG st) .none kV doc pm an cdv ct/\K.lookup f=some ⟨oc,od,.func fd,Mj⟩/\PySem.W.codeIn K cdv qual=true
 kp:PySem.W.keepIn K (.ref f)=true
section
variable{P:Program}{w:World}{K:cg}{mg:Nw}{base:Heap}
def eK.ok{x b:Str}{st:Stmt}{f:Addr}{i:FuncData}{N ps:L8}{k:Nat}{sp:Sp}(F:eK K x b st f i)(S:bJ N ps (bG st))(len:∀vs H Q E,sp vs H Q E->⇑vs=⇑ps)
  (d:∀(c:Value) (A:Around) (a:Nr) (s:Shared) (H:Hp) (vs:N2) (Q:VK) (E:XK),di k (A.deeper (envOfC b (bG st) s.heap.objs.size f c))->sp vs H Q E->
   ∃t,lS (eF oK P w K mg base N b (bG st) f c A a s H E).lL (cY st) t/\t {nx:=λZ H'=>Q .cE H',rt:=Q} (start N vs) H):eJ P w K mg base oK (k+1) f i ps sp:=by
 let⟨r,u,kV,j,v,o,c,p,n,rfl,m,e⟩:=F.ex;refine LX m e S len λA a s H vs Q E l g=>?_
 let⟨t,h,q⟩:=d c A a s H vs Q E l g;exact⟨t,h.lL,q⟩
def eK.binds{x a:Str}{st:Stmt}{f:Addr}{g:FuncData}{ps:L8}(F:eK K x a st f g)
  (h:∀(kV c e:Value) (an:Option Addr) (b d:Value) (us:L9),⇑us=⇑ps->bindArgs (PySem.W.fnOf x a (dh st) (cY st) (bG st) .none kV c e an b d) ⟨us,[]⟩=pure (ps.zip us)):Binds K g ps []:=by
 let⟨l,m,kV,c,e,an,b,d,j,rfl,k,i⟩:=F.ex;exact .all (h kV c e an b d)
def jE{x a:Str}{st:Stmt}{f:Addr}{i:Value}{j an:Option Addr}{e:Array (Nv)}{kV d h b g:Value}(l:K.lookup f=some ⟨i,j,.func (PySem.W.fnOf x a (dh st) (cY st) (bG st) .none kV d h an b g),e⟩)
  (c:PySem.W.codeIn K b a=true) (k:PySem.W.keepIn K (.ref f)=true):eK K x a st f (PySem.W.fnOf x a (dh st) (cY st) (bG st) .none kV d h an b g):=⟨⟨i,j,kV,d,h,an,b,g,e,rfl,l,c⟩,k⟩
end
def Jz(a:di k A):A.units+1<cLine:=vD (Nat.add_le_add_left (by decide:1<=64) _) a.units
section
variable{X:Cx}
def pv(i:Nat)(b:X.N[i]?=some x:=by rfl)(d:si X.env.scope x:=by first | exact Or.inl rfl | exact Or.inr (Or.inl rfl) | exact Or.inr (Or.inr rfl))(c:(x==("__debug__" : Str))=false:=by decide)
  (a:(x==("__classdict__" : Str))=false:=by decide):PE X (.Name x pos) (dY i):=Lg b d c a
end
def fH{A B:Prop}(h:B):if false=true then A else B:=by
 rw[vc vF];exact h
def dq{A B:Prop}(h:A):if true=true then A else B:=by
 rw[vd rfl];exact h
def bI(H H':Hp):Prop:=∀b o,H b=some o->H' b=some o
def bI.refl(H:Hp):bI H H:=λq q h=>h
def bI.trans{H d e:Hp}(a:bI H d)(b:bI d e):bI H e:=λc o h=>b c o (a c o h)
def bI.seq{K:cg}{H H':Hp}{a:Addr}{xs:N2}(e:bI H H')(h:bK K H a xs):bK K H' a xs:=by
 rcases h with(h | ⟨o,h⟩) | h
 .exact .inl (.inl (e _ _ h))
 .exact .inl (.inr ⟨o,e _ _ h⟩)
 .exact .inr h
section
variable{κ:Type}[DecidableEq κ]
noncomputable def cO(kvs:List (κ×V))(k:κ):N3:=(kvs.find? λkv=>decide (kv.1=k)).map (·.2)
noncomputable def putK(kvs:List (κ×V))(k:κ)(v:V):List (κ×V):=
 if(kvs.any λkv=>decide (kv.1=k))=true then kvs.map (λkv=>if kv.1=k then(kv.1,v)else kv)else kvs++[(k,v)]
def qK{p:κ×V}{r:List (κ×V)}{k:κ}(e:p.1=k):cO (p::r) k=some p.2:=by simp[cO,List.find?_cons,e]
def qJ{p:κ×V}{r:List (κ×V)}{k:κ}(e:¬p.1=k):cO (p::r) k=cO r k:=by simp[cO,List.find?_cons,e]
theorem zU(k:κ):∀kvs:List (κ×V),(kvs.any λkv=>decide (kv.1=k))=(cO kvs k).isSome
 | []=>rfl
 | p::r=>by
  rw[any_cons];by_cases e:p.1=k
  .simp only[qK e,decide_eq_true e,Bool.true_or,Option.isSome_some]
  .rw[qJ e,vH e,Bool.false_or];exact zU k r
theorem BS(k j:κ)(y:V):∀kvs:List (κ×V),cO (kvs.map λkv=>if kv.1=k then(kv.1,y)else kv) j=(cO kvs j).map λx=>if j=k then y else x
 | []=>rfl
 | p::r=>by
  have a:=BS k j y r;rw[v9];by_cases h:p.1=k
  .rw[vd h];by_cases e:p.1=j
   .rw[qK (p:=(p.1,y)) e,qK e,Option.map_some,vd (e.symm.trans h)]
   .rw[qJ (p:=(p.1,y)) e,qJ e,a]
  .rw[vc h];by_cases e:p.1=j
   .rw[qK (p:=p) e,qK e,Option.map_some,vc (λz=>h (e.trans z))]
   .rw[qJ (p:=p) e,qJ e,a]
theorem xG(k j:κ)(y:V):∀kvs:List (κ×V),cO kvs k=none->cO (kvs++[(k,y)]) j=if j=k then some y else cO kvs j
 | [],_=>by
  by_cases e:k=j
  .rw[vd e.symm];exact qK (p:=(k,y)) e
  .rw[vc (λz=>e z.symm)];exact qJ (p:=(k,y)) e
 | p::r,hn=>by
  rw[cons_append];have a:¬p.1=k:=λz=>by rw[qK z]at hn;cases hn
  rw[qJ a]at hn;have b:=xG k j y r hn;by_cases e:p.1=j
  .rw[qK e,qK e,vc (λz=>a (e.trans z))]
  .rw[qJ e,qJ e,b]
def BU(kvs:List (κ×V))(k j:κ)(y:V):cO (putK kvs k y) j=if j=k then some y else cO kvs j:=by
 unfold putK;by_cases a:(kvs.any λkv=>decide (kv.1=k))=true
 .rw[vd a,BS];rw[zU]at a;by_cases e:j=k
  .let⟨x,b⟩:=Option.isSome_iff_exists.mp a
   simp_all
  simp_all
 .rw[vc a];refine xG k j y kvs ?_;rw[zU]at a
  simp_all
def Ya(kvs:List (κ×V))(k:κ)(v:V):⇑(putK kvs k v)<=⇑kvs+1:=by
 unfold putK;split
 .rw[vt];lia
 .rw[vn,vQ,length_nil];lia
def fy.gr(r:fy o u):o.isSome=u.isSome:=by
 cases o with
 | none=>cases u with
  | none=>rfl
  | some _=>exact(show False from r).elim
 | some _=>cases u with
  | none=>exact(show False from r).elim
  | some _=>rfl
def KV.val{kvs:List (κ×V)}{vs:List (κ×Value)}(r:KV kvs vs)(k:κ):fy (cO kvs k) (valueAt vs k):=by
 unfold KV at r
 induction r with
 | nil=>exact True.intro
 | @cons p q ps qs h t ih=>
  let⟨c,d⟩:=h;by_cases e:p.1=k
  .have a:q.1=k:=c.symm.trans e;have b:valueAt (q::qs) k=some q.2:=by simp[valueAt,List.find?_cons,a]
   rw[qK e,b];exact d
  .have a:¬q.1=k:=λz=>e (c.trans z)
   have b:valueAt (q::qs) k=valueAt qs k:=by simp[valueAt,List.find?_cons,a]
   rw[qJ e,b];exact ih
def KV.any(r:KV kvs vs)(k:κ):(kvs.any λkv=>decide (kv.1=k))=vs.any λkv=>decide (kv.1=k):=by
 unfold KV at r
 induction r with
 | nil=>rfl
 | cons h t ih=>simp_all
def KV.rq(r:KV kvs vs)(k:κ)(c:RelV y u) :
  KV (kvs.map λkv=>if kv.1=k then(kv.1,y)else kv) (vs.map λkv=>if kv.1=k then(kv.1,u)else kv):=by
 unfold KV at r|-
 induction r with
 | nil=>exact .nil
 | @cons p q ps qs h t ih=>
  rw[v9,v9];refine .cons ?_ ih;let⟨a,b⟩:=h;by_cases e:p.1=k
  .rw[vd e,vd (a.symm.trans e)];exact⟨a,c⟩
  .rw[vc e,vc (λz=>e (a.trans z))];exact⟨a,b⟩
def KV.put(r:KV kvs vs)(k:κ)(a:RelV y u):KV (putK kvs k y) (stored vs k u):=by
 unfold putK stored;rw[r.any k];by_cases e:(vs.any λkv=>decide (kv.1=k))=true
 .rw[vd e,vd e];exact r.rq k a
 .rw[vc e,vc e];exact Paired.snoc r ⟨rfl,a⟩
def KV.keys{kvs:List (κ×V)}{vs:List (κ×Value)}(r:KV kvs vs):kvs.map (·.1)=vs.map (·.1):=by
 unfold KV at r
 induction r with
 | nil=>rfl
 | cons h t ih=>simp_all
def KV.length(r:KV kvs vs):⇑kvs=⇑vs:=Paired.length r
end
def xg(r:RelV (kV k) u):(bR P w).is k u=true:=by
 cases k with
 | inl i=>let⟨t,e⟩:=(show∃t,u=Value.int i t from r);subst e;exact Eg P w i t
 | inr x=>let⟨t,e⟩:=(show∃t,u=Value.str x t from r);subst e;exact Eh P w x t
theorem xf:∀{ks:List Key} {us:L9},Vals (ks.map kV) us->ItemsAre (bR P w) ks us
 | [],_,r=>by rw[map_nil]at r;cases r;exact .nil
 | k::ks,_,r=>by
  rw[v9]at r;cases r with
  | cons h t=>exact .cons (xg h) (xf t)
noncomputable abbrev KT(H:Hp):List (List Key×V)->List (List Key×Addr×Value)->Prop:=Paired λp q=>p.1=q.1/\H q.2.1=some (.tup (p.1.map kV))/\RelV p.2 q.2.2
def KT.val{H:Hp}{kvs:List (List Key×V)}{xs:List (List Key×Addr×Value)}(r:KT H kvs xs)(k:List Key):fy (cO kvs k) ((atKey xs k).map (·.2)):=by
 induction r with
 | nil=>exact True.intro
 | @cons p q ps qs h t ih=>
  let⟨c,j,d⟩:=h;by_cases e:p.1=k
  .have a:q.1=k:=c.symm.trans e;have b:atKey (q::qs) k=some q.2:=by simp[atKey,List.find?_cons,a]
   rw[qK e,b];exact d
  .have a:¬q.1=k:=λz=>e (c.trans z)
   have b:atKey (q::qs) k=atKey qs k:=by simp[atKey,List.find?_cons,a]
   rw[qJ e,b];exact ih
def KT.rq{H:Hp}(r:KT H kvs xs)(k:List Key)(d:RelV y u) :
  KT H (kvs.map λkv=>if kv.1=k then(kv.1,y)else kv) (xs.map (putAt k u)):=by
 induction r with
 | nil=>exact .nil
 | @cons p q ps qs h t ih=>
  rw[v9,v9];refine .cons ?_ ih;let⟨a,b,c⟩:=h;unfold putAt;by_cases e:p.1=k
  .rw[vd e,vd (a.symm.trans e)];exact⟨a,b,d⟩
  .rw[vc e,vc (λz=>e (a.trans z))];exact⟨a,b,c⟩
def KT.put{H:Hp}(r:KT H kvs xs)(k:List Key)(c:H b=some (.tup (k.map kV)))(a:RelV y u) :
  KT H (putK kvs k y) (storedH xs k b u):=by
 have e:(kvs.any λkv=>decide (kv.1=k))=(atKey xs k).isSome:=by
  rw[zU,(r.val k).gr,Option.isSome_map]
 unfold putK storedH;rw[e];by_cases q:(atKey xs k).isSome=true
 .rw[vd q,vd q];exact r.rq k a
 .rw[vc q,vc q];exact Paired.snoc r ⟨rfl,c,a⟩
def KT.keeps{H H':Hp}(r:KT H kvs xs)(a:∀b ys,H b=some (.tup ys)->H' b=some (.tup ys)):KT H' kvs xs:=
 Paired.sQ r λq q z=>⟨z.1,a _ _ z.2.1,z.2.2⟩
section
variable{P:Program}{w:World}{H:Hp}{h:Heap}{a:Addr}
def DT(b:eN P w H h)(e:Rd H a u):cf P w H h a u:=e.ok b
def uy(b:eN P w H h)(e:Rd H a (.dK kvs)):⇑kvs<=sizeLine/\(a==sysModules)=false/\∃vs,KV kvs vs/\h.DictOf (bR P w) a vs:=
 show cf P w H h a (.dK kvs)from DT b e
def wN(b:eN P w H h)(e:H a=some (.dK kvs)):⇑kvs<=sizeLine/\(a==sysModules)=false/\∃vs,KV kvs vs/\h.DictOf (bR P w) a vs:=uy b (.inl e)
def Wa(g:eN P w H h)(e:H a=some (.tup (ks.map kV))):(tupleKind (bR P w)).is h ks a:=by
 let⟨q,b,r,o,c,d,n,f⟩:=(show cf P w H h a (.tup (ks.map kV))from g a _ e)
 exact⟨o,b.toArray,n,c,d,f,#v[xf r]⟩
def uB(d:eN P w H h)(e:Rd H a (.dT kvs)):⇑kvs<=sizeLine/\(a==sysModules)=false/\
  ∃xs,KT H kvs xs/\h.DictOfH (tupleKind (bR P w)) a xs:=by
 let⟨z,y,xs,r,o,g,f,i,j,k,n,s⟩:=(show cf P w H h a (.dT kvs)from DT d e)
 refine⟨z,y,xs,r,o,g,f,i,j,k,n,λx b=>?_,s⟩;have c:∀{l:List (List Key×V)} {m:List (List Key×Addr×Value)},KT H l m->∀x∈m,(tupleKind (bR P w)).is h x.1 x.2.1:=by
  intro l m q
  induction q with
  | nil=>intro x b;exact nomatch b
  | @cons p q ps qs hq t ih=>
   intro x b;rcases mem_cons.mp b with e | b
   .subst e;exact Wa d (by rw[<-hq.1];exact hq.2.1)
   .exact ih x b
 exact c r x b
def LV(b:eN P w H h)(e:H a=some (.dT kvs)):⇑kvs<=sizeLine/\(a==sysModules)=false/\
  ∃xs,KT H kvs xs/\h.DictOfH (tupleKind (bR P w)) a xs:=uB b (.inl e)
end
def cM(H:Hp)(a:Addr)(y:V)(r:N3):Prop:=
 (∃kvs k,Rd H a (.dK kvs)/\y=kV k/\r=cO kvs k)\/∃kvs k b,Rd H a (.dT kvs)/\y = .ref b/\H b=some (.tup (k.map kV))/\r=cO kvs k
def fP(H:Hp)(a:Addr)(y v:V)(H':Hp):Prop:=
 (∃kvs k,H a=some (.dK kvs)/\y=kV k/\⇑kvs<sizeLine/\H'=upd H a (.dK (putK kvs k v)))\/
 ∃kvs k b,H a=some (.dT kvs)/\y = .ref b/\H b=some (.tup (k.map kV))/\⇑kvs<sizeLine/\H'=upd H a (.dT (putK kvs k v))
def cM.k{H:Hp}{a:Addr}{kvs:List (Key×V)}{k:Key}(e:H a=some (.dK kvs)):cM H a (kV k) (cO kvs k):=.inl ⟨kvs,k,.inl e,rfl,rfl⟩
def fP.k{H:Hp}{a:Addr}{kvs:List (Key×V)}{k:Key}{v:V}(e:H a=some (.dK kvs))(b:⇑kvs<sizeLine):fP H a (kV k) v (upd H a (.dK (putK kvs k v))):=.inl ⟨kvs,k,e,rfl,b,rfl⟩
section
variable{X:Cx}{pins:Ny}{σ:St}{H:Hp}{s:Shared}{a:Addr}{y v:V}{u r:Value}{o:N3}{A:Around}{E:Nz}
def Inv.big(I:Inv X pins σ H s):sysModules<s.heap.objs.size:=by
 have h:mainGlobals<s.heap.objs.size:=(I.mod.glob.keeps I.bk).lt;exact vZ nofun h
def W7{Q:Nz}(B:A.units+1<cLine)(I:Inv X pins σ H s)(g:cM H a y (some v))(r:RelV y u)(h:∀f s',Inv X pins σ H s'->RelV v f->Q f s') :
  wpAny (model X.prog X.w) A (getItem (.ref a) u) Q E s:=by
 rcases g with⟨q,k,e,j,l⟩ | ⟨q,k,b,e,j,t,l⟩
 .subst j;let⟨z,w,C,c,i⟩:=uy I.cw e;let⟨f,n,d⟩:=fy.some_of (v:=v) (o:=valueAt C k) (by rw[l];exact c.val k);exact wpAny_getItem_of (xg r) i.mapOf n (h f _ (I.tok _) d)
 .subst j;cases(show u=Value.ref b from r);let⟨z,w,D,c,i⟩:=uB I.cw e;let⟨f,n,d⟩:=fy.some_of (v:=v) (o:=(atKey D k).map (·.2)) (by rw[l];exact c.val k);let⟨p,x,m⟩:=vg.mp n;refine wpAny_getItem_heap (tupleKind_room_in1 B) (Wa I.cw t) i x ?_;rw[m];exact h f _ (I.tok _) d
def Me{Q:Nz}(p:A.units+1<cLine)(I:Inv X pins σ H s)(g:cM H a y o)(m:RelV y u)(h:∀s',Inv X pins σ H s'->Q (.bool o.isSome) s') :
  wpAny (model X.prog X.w) A (compareOp .In u (.ref a)) Q E s:=by
 rcases g with⟨j,k,e,f,l⟩ | ⟨j,k,b,e,f,n,l⟩
 .subst f;let⟨z,i,r,c,d⟩:=uy I.cw e;refine wpAny_in_of (xg m) i d.mapOf ?_;rw[<-(c.val k).gr,<-l];exact h _ (I.tok _)
 .subst f;cases(show u=Value.ref b from m);let⟨z,i,t,c,d⟩:=uB I.cw e;refine wpAny_in_heap (tupleKind_room_in1 p) (Wa I.cw n) i d ?_;have q:=(c.val k).gr;rw[Option.isSome_map]at q;rw[<-q,<-l];exact h _ (I.tok _)
def YD(I:Inv X pins σ H s)(h:rY (H a))(g:Heap.SameBut a s.heap h')(f:∃q,h'.get? a=some q)(c:cf X.prog X.w (upd H a ob) h' a ob) :
  Inv X pins σ (upd H a ob) {s with heap:=h',toks:=t'}:=
 I.write (x:=a) (e:=a) h (.inl rfl) (λb q d z=>(g.2 b d).trans z) f c
def wM{H':Hp}(z:⇑kvs<=sizeLine)(d:(a==sysModules)=false)(b:KV kvs vs)(c:h'.DictOf (bR P w) a vs) :
  cf P w H' h' a (.dK kvs):=⟨z,d,vs,b,c⟩
def FK{H':Hp}{Q:Unit->Shared->Prop}(R:A.units+1<cLine)(I:Inv X pins σ H s)(g:fP H a y v H')(G:RelV y u)(F:RelV v r)(h:∀s',Inv X pins σ H' s'->Q () s') :
  wpAny (model X.prog X.w) A (setItem (.ref a) u r) Q E s:=by
 rcases g with⟨d,k,e,o,l,n⟩ | ⟨d,k,b,e,o,B,l,n⟩
 .subst o n;let⟨z,p,S,f,m⟩:=wN I.cw e;have x:⇑S<=sizeLine:=by rw[<-⇑f];exact z
  have t:⇑(putK d k v)<=sizeLine:=by have:=Ya d k v;lia
  refine wpAny_setItem_pairs (hsz:=x) (xg G) m λD i w=>h _ ?_
  have P:∃q,D.get? a=some q:=let ⟨q,_,_,j,_⟩:=i;⟨q,j⟩;exact YD I (by rw[e];exact True.intro) w P (wM t p (f.put k F) i)
 .subst o n;cases(show u=Value.ref b from G);let⟨z,p,T,f,m⟩:=LV I.cw e;have x:⇑T<=sizeLine:=by rw[<-Paired.length f];exact z
  have t:⇑(putK d k v)<=sizeLine:=by have:=Ya d k v;lia
  refine wpAny_setItem_heap (hsz:=x) (tupleKind_room_in1 R) (Wa I.cw B) m λD i w=>h _ ?_
  let⟨q,K,J,j,L,M,N,Z,O⟩:=i;refine YD I (by rw[e];exact True.intro) w ⟨q,j⟩ ⟨t,p,_,(f.put k B F).keeps λc U C=>?_,q,K,J,j,L,M,N,O⟩;rw[jh (Je C e (λz=>nomatch z))];exact C
end
def rZ(i:Expr):Prop:=∀ov iv,subscripted i false ov iv=operate [ov,iv] (getItem ov iv)
def IS{prog:Program}{w:World}{A:Around}{E:Nz}{s:Shared}{env:Env}{b a:Expr}{l:Pos}{T q:String}{Q:Nz}
  (n:typeLookup (.type T) "__getitem__"= pure (some (.builtin q))) (p:rZ a)
  (h:wpAny (model prog w) A (eval b env) (λo e=>wpAny (model prog w) A (eval a env) (λi c=>c.TypeIs o T/\wpAny (model prog w) A (getItem o i) Q E c) E e) E s) :
  wpAny (model prog w) A (eval (.Subscript b a l) env) Q E s:=by
 refine Subscript_ (wpAny_mono h (λo e j=>wpAny_mono j (λi c d=>?_) λZ Z x=>x) λZ Z x=>x);let⟨m,d⟩:=d;unfold subscriptTail;refine uh ?_;rw[getitemInPython_of_ne m.not_modules];refine uh (wpAny_specialOf m n ?_);have g:wpAny (model prog w) A (subscripted a false o i) (λr f=>wpAny (model prog w) A (letTemporaryGo b o r >>= λZ=>pure r) Q E f) E c:=by
  rw[p o i];exact wpAny_operating (wpAny_mono d (λr f k=>uh (wpAny_letTemporaryGo (ug k))) λZ Z x=>x)
 first
  | exact ug (uh g)
  | exact uh (ug (uh g))
  | exact uh g
def KW{f:St}{H:Hp}(I:Inv X pins f H s)(g:cM H a y o):s.TypeIs (.ref a) "dict":=by
 rcases g with⟨d,k,e,_,_⟩ | ⟨d,k,b,e,_,_,_⟩
 .let⟨_,_,h,_,c⟩:=uy I.cw e;exact c.typeIs
 .let⟨_,_,i,_,c⟩:=uB I.cw e;exact c.typeIs
def pA(td ty:TE):TE:=λσ H Q=>td σ H λx H1=>ty σ H1 λy H2=>∃a v,x = .ref a/\cM H2 a y (some v)/\Q v H2
def tH(ty td:TE):TE:=λσ H Q=>ty σ H λy H1=>td σ H1 λx H2=>∃a o,x = .ref a/\cM H2 a y o/\Q (.bl o.isSome) H2
def pk(td ty tv:TE):TS:=λD σ H=>tv σ H λv H1=>td σ H1 λx H2=>ty σ H2 λy H3=>∃a H4,x = .ref a/\fP H3 a y v H4/\D.nx σ H4
section
variable{X:Cx}{o i e value:Expr}{pos pos' tpos:Pos}{td ty tv:TE}
def JN(q:X.A.units+1<cLine)(n:PE X o td)(hi:PE X i ty)(p:rZ i:=by exact λZ Z=>rfl):PE X (.Subscript o i pos) (pA td ty):=by
 intro b s e H Q I h;refine IS PySem.F.slot_dict_getitem.lookup p (cv (n b s e H _ I h) λu A z_=>?_);let⟨x,f,k,w,r⟩:=z_;refine cv (hi b A e f _ k r) λB C z_=>?_;obtain⟨y,j,d,z,a,v,m,g,t⟩:=z_;subst m;obtain rfl:u=Value.ref a:=w;exact⟨KW d g,W7 q d g z λE D l c=>⟨v,j,l,c,t⟩⟩
def Lb(n:X.A.units+1<cLine)(hi:PE X i ty)(m:PE X o td):PC X .In i o (tH ty td):=by
 intro b s c H Q I h;refine cv (hi b s c H _ I h) λw v z_=>?_;let⟨y,d,f,t,p⟩:=z_;refine cv (m b v c d _ f p) λu z z_=>?_;obtain⟨x,e,j,r,a,ov,l,g,q⟩:=z_
 subst l;obtain rfl:u=Value.ref a:=r;exact Me n j g t λA k=>⟨.bl ov.isSome,e,k,rfl,q⟩
def Zl(t:X.A.units+1<cLine)(p:PE X o td)(hi:PE X i ty)(w:PE X value tv)(q:swapsWith value (some (.Subscript o i pos')) pos.line X.env=pure false) :
  PS X (.Assign [.Subscript o i pos'] value pos) (pk td ty tv):=by
 intro b s c H D I h;refine wpAny_Assign_Subscript (cv (w b s c H _ I h) λr G z_=>?_) q;let⟨v,d,j,C,z⟩:=z_;refine cv (p b G c d _ j z) λu J z1_=>?_;let⟨x,e,k,E,A⟩:=z1_;refine cv (hi b J c e _ k A) λL M z_=>?_;obtain⟨y,K,l,F,a,f,n,g,B⟩:=z_;subst n;obtain rfl:u=Value.ref a:=E;exact FK t l g F C λN m=>⟨c,f,m,B⟩
end
def BE{H:Hp}(h:Heap)(a:sysModules<h.objs.size):cf P w H (h.push {cls:=.type "dict",data:=.dict #[]}) h.objs.size (.dK []):=
 ⟨va _,beq_eq_false_iff_ne.mpr (Ne.symm (vE a)),[],.nil,Heap.DictOf.new h⟩
def nQ:TE:=λq H Q=>∀p,H p=none->Q (.ref p) (upd H p (.dK []))
section
variable{X:Cx}{pos:Pos}
def zL:PE X (.Dict [] [] pos) nQ:=λb s c H Q I h=>
 wpAny_Dict_empty ⟨.ref s.heap.objs.size,_,I.laid (a:=s.heap.objs.size) (o:=.dK []) (t':=s.toks) (λj j q=>vJ _ q) (vb _) (BE s.heap I.big),rfl,h _ (I.cw.fresh (vb _))⟩
end
noncomputable def fO:List (TE×TE)->St->Hp->(List (V×V)->Hp->Prop)->Prop
 | [],_,H,Q=>Q [] H
 | (tk,tv)::r,σ,H,Q=>tk σ H λx H1=>tv σ H1 λy H2=>fO r σ H2 λps H3=>Q ((x,y)::ps) H3
noncomputable abbrev VV:List (V×V)->List (Value×Value)->Prop:=Paired λp q=>RelV p.1 q.1/\RelV p.2 q.2
def tX(X:Cx)(pos:Pos)(keys:List (Option Expr))(values:Nt)(trs:List (TE×TE)):Prop:=
 ∀(pins:Ny) (s:Shared) (σ:St) (H:Hp) (Q:List (V×V)->Hp->Prop),Inv X pins σ H s->fO trs σ H Q->
  wpAny (model X.prog X.w) X.A (evalPairs (pairTrees keys values X.env pos)) (λvs s'=>∃ps H',Inv X pins σ H' s'/\VV ps vs/\Q ps H') X.xe s
def HR{X:Cx}{a:Pos}:tX X a [] [] []:=λb s c H Q I h=>pairTrees_nil_walk ⟨[],H,I,.nil,h⟩
def Hl{X:Cx}{b:Pos}{k v:Expr}{ks:List (Option Expr)}{vs:Nt}{f g:TE}{c:List (TE×TE)}(p:PE X k f)(r:PE X v g)(q:tX X b ks vs c) :
  tX X b (some k::ks) (v::vs) ((f,g)::c):=λa s e H Q I h=>
 pairTrees_cons_walk (cv (p a s e H _ I h) λu D ⟨x,i,m,B,w⟩=>cv (r a D e i _ m w) λG E ⟨y,j,n,C,z⟩=>
  cv (q a E e j _ n z) λJ F ⟨t,l,o,d,A⟩=>⟨(x,y)::t,l,o,.cons ⟨B,C⟩ d,A⟩)
noncomputable def cC(kvs more:List (Key×V)):List (Key×V):=more.foldl (λacc kv=>putK acc kv.1 kv.2) kvs
def KV.merge:∀{more:List (Key×V)} {a:List (Key×Value)} {kvs:List (Key×V)} {vs:List (Key×Value)},KV more a->KV kvs vs->KV (cC kvs more) (merged vs a):=by
 intro more a kvs vs r;unfold KV at r
 induction r generalizing kvs vs with
 | nil=>intro q;exact q
 | @cons p q ps qs h t ih=>
  intro b;have e:KV (putK kvs p.1 p.2) (stored vs q.1 q.2):=by
   have:=b.put p.1 h.2;rw[<-h.1];exact this
  exact ih e
theorem qX:∀(more kvs:List (Key×V)),⇑(cC kvs more)<=⇑kvs+⇑more
 | [],kvs=>by show ⇑kvs<=⇑kvs+0;lia
 | p::r,kvs=>by
  have a:=qX r (putK kvs p.1 p.2);have b:=Ya kvs p.1 p.2;show(cC (putK kvs p.1 p.2) r).length<=_;rw[vQ];lia
theorem wH{P:Program}{w:World}:∀{kvs:List (Key×V)} {e:List (Value×Value)},VV (kvs.map λkv=>(kV kv.1,kv.2)) e->∃d,Carries (bR P w) e d/\KV kvs d
 | [],_,r=>by rw[map_nil]at r;cases r;exact⟨[],True.intro,.nil⟩
 | p::kvs,_,r=>by
  rw[v9]at r;cases r with
  | @cons a b as bs h t=>
   let⟨d,c,q⟩:=wH (P:=P) (w:=w) t;let⟨g,f⟩:=b;exact⟨(p.1,f)::d,⟨xg h.1,rfl,c⟩,.cons ⟨rfl,h.2⟩ q⟩
def pB(trs:List (TE×TE)):TE:=λσ H Q=>∀p,H p=none->fO trs σ (upd H p (.dK [])) λps H2=>H2 p=some (.dK [])/\∃kvs:List (Key×V),ps=kvs.map (λkv=>(kV kv.1,kv.2))/\⇑kvs<=15/\Q (.ref p) (upd H2 p (.dK (cC [] kvs)))
def HL{X:Cx}{k:Pos}{b:List (Option Expr)}{d:Nt}{l:List (TE×TE)}(h:tX X k b d l)(g:b.all (·.isSome)=true)(B:⇑b=⇑d)(v:b≠[])
  (m:⇑b<=15):PE X (.Dict b d k) (pB l):=by
 intro j s M H Q I q;have C:=I.cw.fresh (vb s.heap.objs.size);have r:=I.laid (a:=s.heap.objs.size) (o:=.dK []) (h':=s.heap.push {cls:=.type "dict",data:=.dict #[]}) (t':=s.toks) (λZ Z q=>vJ _ q) (vb _) (BE s.heap I.big);refine wpAny_Dict_walk (knd:=bR X.prog X.w) g B v m (cv (h j _ M _ _ r (q _ C)) λT S z_=>?_);obtain⟨R,N,p,n,e,i,u,O,F⟩:=z_;subst u;let⟨K,c,J⟩:=wH (P:=X.prog) (w:=X.w) n;let⟨z,y,L,G,t⟩:=wN p.cw e;cases G;refine⟨K,c,t,λh' f D=>⟨.ref s.heap.objs.size,_,?_,rfl,F⟩⟩;have E:⇑(cC [] i)<=sizeLine:=by
  have x:=qX i [];rw[length_nil]at x;rw[sizeLine_eq];lia
 have A:∃q,h'.get? s.heap.objs.size=some q:=let ⟨q,_,_,hq,_⟩:=f;⟨q,hq⟩;exact YD p (by rw[e];exact True.intro) D A (wM E y (J.merge .nil) f)
structure M1(X:Cx)(o:Expr)(m:Str)(apos:Pos)(e:Expr)(cpos:Pos):Prop where
 base:attributeBase o m X.env (eval o X.env)=eval o X.env
 vT:((backTo cpos (starEach [e] X.env)).all (λx=>!x.1)&&(backToKw cpos (keywordEach [] X.env)).all (λx=>x.1.isSome)
  && decide (⇑([e]:Nt)+⇑([]:List Keyword)+(if([]:List Keyword).isEmpty then 0 else 1)<30))=true
 line:(apos.endLine==cpos.line)=true
 trees:backTo cpos (starEach [e] X.env)=[(false,eval e X.env)]
section
variable{κ:Type}[DecidableEq κ]
def Hs{kvs:List (κ×V)}{k:κ}(h:cO kvs k=none):¬k∈kvs.map (·.1):=by
 intro m;let⟨p,a,e⟩:=vK.mp m;have q:(kvs.any λkv=>decide (kv.1=k))=true:=any_eq_true.mpr ⟨p,a,vG e⟩;rw[zU,h]at q;exact uf q (by simp)
def Lo{kvs:List (κ×V)}{k:κ}{v:V}(h:cO kvs k=some v):k∈kvs.map (·.1):=by
 have q:(kvs.any λkv=>decide (kv.1=k))=true:=by
  rw[zU,h]
  all_goals rfl
 simp_all
end
def mI{R:Result->Shared->Prop}(I:Nat->Shared->Prop)
  (u:∀n s,I n s->wpAny (model prog w) A (pyNext it) (λr b=>match r with
   | none=>R (.ok .next) b
   | some v=>wpAny (model prog w) A (letOwnedTupleGo target it v) (λZ g=>wpAny (model prog w) A (assign target env v) (λZ i=>
     wpAny (model prog w) A (forIn ifs true λc r=>if r=true then do let t <-isTrue c env (eval c env);pure (ForInStep.yield t)else pure (ForInStep.yield r)) (λt d=>
      if t=true then wpAny (model prog w) A (eval elt env) (λx j=>
       wpAny (model prog w) A (call (.builtin "list.append") [acc,x]) (λZ k=>∃m,m<n/\I m k) (λZ Z=>False) j) (λZ Z=>False) d
      else∃m,m<n/\I m d) (λZ Z=>False) i) (λZ Z=>False) g) (λZ Z=>False) b) (λZ Z=>False) s)
  (n:Nat) (h:I n s) :
  codeAny (model prog w) A (.compLoop (.ListComp elt [⟨target,iter,ifs,0⟩] scope pos) 0 it acc env) R s:=by
 refine codeAny_loop rfl I (λn s y=>?_) n h;show wpAny _ A ((compTurn (.ListComp elt [⟨target,iter,ifs,0⟩] scope pos) 0 it acc env).onRaise (λx=>do noteFrame x env;theTreesLotGoes x)) _ _ s;refine wpAny_noted ?_;rw[compTurn_list];refine uh (wpAny_standAt (uh (wpAny_mono (u n s y) (λr b e=>?_) λZ Z a=>a.elim)));cases r with
 | none=>exact ug e
 | some v=>
  refine uh (wpAny_mono e (λZ g l=>?_) λZ Z a=>a.elim);refine uh (wpAny_mono l (λZ i o=>uh (wpAny_mono o (λt d f=>?_) λZ Z a=>a.elim)) λZ Z a=>a.elim);cases t with
  | false=>exact ug ⟨rfl,f⟩
  | true=>
   exact uh (uh (wpAny_mono f (λx j p=>uh (wpAny_mono p (λZ k q=>ug (ug ⟨rfl,q⟩)) λZ Z a=>a.elim)) λZ Z a=>a.elim))
def PF(X:Cx)(ifs:Nt)(t:TT):Prop:=
 ∀(pins:Ny) (s:Shared) (σ:St) (H:Hp) (Q:Bool->Hp->Prop),Inv X pins σ H s->t σ H Q->
  wpAny (model X.prog X.w) X.A (forIn ifs true λc r=>if r=true then do let ok <-isTrue c X.env (eval c X.env);pure (ForInStep.yield ok)else pure (ForInStep.yield r)) (TP X pins σ Q) X.xe s
def tS:TT:=λq H Q=>Q true H
def JS:PF X [] tS:=λq q q H q I h=>wpAny_tests_nil ⟨H,I,h⟩
def XY(b:PT X c t):PF X [c] t:=λa s d H Q I h=>wpAny_tests_one (b a s d H Q I h)
noncomputable def cX(env:Env):List (Str×NameKind)->List (Str×Addr)->List (Str×Addr)
 | [],acc=>acc
 | (n,k)::r,acc=>cX env r (if k == .free then(n,(env.cells.lookup n).getD 0)::acc else acc)
def kC(h:∀y∈scope.names,y.2 = .free->∃c,env.cells.lookup y.1=some c):closureFor scope env=pure (cX env scope.names []):=by
 have l:∀(names:List (Str×NameKind)) (b:List (Str×Addr)),(∀y∈names,y.2 = .free->∃c,env.cells.lookup y.1=some c)->
   (forIn (m:=Sem) names b λx r=>(match x with | (name,kind)=>if(kind == .free)=true then do let a <-cellOf env name;pure (ForInStep.yield ((name,a)::r))else pure (ForInStep.yield r)))=pure (cX env names b):=by
  intro names
  induction names with
  | nil=>intro b q;rfl
  | cons y r ih=>
   let⟨n,k⟩:=y;intro b d;rw[forIn_cons];cases hk:(k==NameKind.free)with
   | true=>
    have e:k = .free:=by simpa using hk
    let⟨c,i⟩:=d (n,k) vq e;have j:cellOf env n=pure c:=by unfold cellOf;rw[i]
    simp only[hk,if_true,j,pure_bind,cX,i,Option.getD_some];exact ih _ λy f=>d y (vp _ f)
   | false=>
    simp only[hk,Bool.false_eq_true,if_false,pure_bind,cX];exact ih _ λy f=>d y (vp _ f)
 have g:=l scope.names [] h;unfold closureFor;simp only[g,pure_bind]
theorem W5:∀(names:List (Str×NameKind)) (acc:List (Str×Addr)),(∀y∈names,y.2 = .free->∃c,env.cells.lookup y.1=some c)->(∀x c,acc.lookup x=some c->env.cells.lookup x=some c)->
  ∀x c,(cX env names acc).lookup x=some c->env.cells.lookup x=some c
 | [],_,_,ha,x,c,h=>ha x c h
 | (n,k)::r,acc,hh,ha,x,c,h=>by
  refine W5 r _ (λy d=>hh y (vp _ d)) (λx c e=>?_) x c h;cases hk:(k==NameKind.free)with
  | false=>rw[hk]at e;exact ha x c e
  | true=>
   rw[hk]at e;have a:k = .free:=by simpa using hk
   let⟨f,b⟩:=hh (n,k) vq a;simp only[if_true,b,Option.getD_some]at e;rw[lookup_cons]at e;cases hx:(x==n)with
   | true=>
    rw[hx]at e;have:x=n:=by simpa using hx
    rw[this,b];exact e
   | false=>rw[hx]at e;exact ha x c e
theorem W4:∀(names:List (Str×NameKind)) (acc:List (Str×Addr)) (x:Str),(∃c,acc.lookup x=some c)->∃c,(cX env names acc).lookup x=some c
 | [],_,_,h=>h
 | (n,k)::r,acc,x,h=>by
  refine W4 r _ x ?_;cases hk:(k==NameKind.free)with
  | false=>exact h
  | true=>
   simp only[if_true];rw[lookup_cons];cases hx:(x==n)with
   | true=>exact⟨_,rfl⟩
   | false=>exact h
theorem Ku:∀(names:List (Str×NameKind)) (acc:List (Str×Addr)) (x:Str),(x,NameKind.free)∈names->∃c,(cX env names acc).lookup x=some c
 | [],_,_,h=>by simp at h
 | (n,k)::r,acc,x,h=>by
  rcases mem_cons.mp h with e | h
  .cases e;refine W4 r _ _ ?_;simp
  .exact Ku r _ x h
theorem zJ{env:Env}:∀{names:List (Str×NameKind)} {x:Str} {k:NameKind},(names.map λ(n,k)=>if(k==NameKind.free&&env.scope.kind == .function&&env.kindOf n==some .cell)then(n,NameKind.cell)else(n,k)).lookup x=some k->
  ∃b,(x,b)∈names/\names.lookup x=some b/\(b=k\/(b = .free/\k = .cell))
 | [],_,_,h=>by simp at h
 | (n,k₀)::r,x,k,h=>by
  have i:=@zJ env r x k;rw[v9]at h;dsimp only at h;cases hx:x==n with
  | true=>
   have e:x=n:=by simpa using hx
   subst e;refine⟨k₀,vq,by simp,?_⟩;by_cases a:(k₀==NameKind.free&&env.scope.kind == .function&&env.kindOf x==some .cell)=true
   .rw[vd a]at h;simp only[lookup_cons,beq_self_eq_true]at h;simp only[Bool.and_eq_true,beq_iff_eq]at a;exact .inr ⟨a.1.1,(vL h).symm⟩
   .rw[vc a]at h;simp only[lookup_cons,beq_self_eq_true]at h;exact .inl (vL h)
  | false=>
   have c:(r.map λ(n,k)=>if(k==NameKind.free&&env.scope.kind == .function&&env.kindOf n==some .cell)then(n,NameKind.cell)else(n,k)).lookup x=some k:=by
    by_cases a:(k₀==NameKind.free&&env.scope.kind == .function&&env.kindOf n==some .cell)=true
    .rw[vd a]at h;simpa only[lookup_cons,hx]using h
    .rw[vc a]at h;simpa only[lookup_cons,hx]using h
   let⟨b,d,f,g⟩:=i c;exact⟨b,vp _ d,by simpa only[lookup_cons,hx]using f,g⟩
theorem Kt:∀(names:List (Str×NameKind)) (n:Nat) (acc:List (Str×Addr)) (x:Str) (c:Addr),(cellsFrom n names acc).lookup x=some c->n<=c\/acc.lookup x=some c
 | [],_,_,_,_,h=>.inr h
 | (y,k)::r,n,acc,x,c,h=>by
  unfold cellsFrom at h;split at h
  .rcases Kt r (n+1) _ x c h with q | q
   .exact .inl ⋯
   .rw[lookup_cons]at q;cases hx:x==y with
    | true=>rw[hx]at q;cases q;exact .inl (vb _)
    | false=>rw[hx]at q;exact .inr q
  .exact Kt r n acc x c h
theorem Au:∀(names:List (Str×NameKind)) (n:Nat) (acc:List (Str×Addr)),(∀x c,acc.lookup x=some c->c<n)->(∀x y c,acc.lookup x=some c->acc.lookup y=some c->x=y)->
  ∀x y c,(cellsFrom n names acc).lookup x=some c->(cellsFrom n names acc).lookup y=some c->x=y
 | [],_,_,_,hi,x,y,c,h1,h2=>hi x y c h1 h2
 | (z,k)::r,n,acc,hb,hi,x,y,c,h1,h2=>by
  unfold cellsFrom at h1 h2;split at h1
  .rename_i hk;rw[vd hk]at h2;refine Au r (n+1) _ (λx c e=>?_) (λx y c b a=>?_) x y c h1 h2
   .rw[lookup_cons]at e;cases hx:x==z with
    | true=>rw[hx]at e;cases e;exact Nat.lt_succ_self _
    | false=>rw[hx]at e;exact Nat.lt_succ_of_lt (hb x c e)
   .rw[lookup_cons]at b a;cases hx:x==z with
    | true=>
     rw[hx]at b;cases b;cases hy:y==z with
     | true=>rw[beq_iff_eq.mp hx,beq_iff_eq.mp hy]
     | false=>rw[hy]at a;exact uf (hb y n a) (Nat.lt_irrefl _)
    | false=>
     rw[hx]at b;cases hy:y==z with
     | true=>rw[hy]at a;cases a;exact uf (hb x n b) (Nat.lt_irrefl _)
     | false=>rw[hy]at a;exact hi x y c b a
  .rename_i hk;rw[vc hk]at h2;exact Au r n acc hb hi x y c h1 h2
theorem Xa:∀(names:List (Str×NameKind)) (n:Nat) (acc:List (Str×Addr)) (x:Str),(∃c,acc.lookup x=some c)->∃c,(cellsFrom n names acc).lookup x=some c
 | [],_,_,_,h=>h
 | (y,k)::r,n,acc,x,h=>by
  unfold cellsFrom;split
  .refine Xa r (n+1) _ x ?_;rw[lookup_cons];cases hx:x==y with
   | true=>exact⟨_,rfl⟩
   | false=>exact h
  .exact Xa r n acc x h
theorem As:∀(names:List (Str×NameKind)) (n:Nat) (acc:List (Str×Addr)) (x:Str),(x,NameKind.cell)∈names->∃c,(cellsFrom n names acc).lookup x=some c
 | [],_,_,_,h=>by simp at h
 | (y,k)::r,n,acc,x,h=>by
  unfold cellsFrom;rcases mem_cons.mp h with e | h
  .cases e;simp only[beq_self_eq_true,if_true];exact Xa r _ _ _ (by simp)
  .split
   .exact As r _ _ x h
   .exact As r _ _ x h
theorem Aw:∀(names:List (Str×NameKind)) (n:Nat) (acc:List (Str×Addr)) (x:Str),(x,NameKind.cell)∉names->(cellsFrom n names acc).lookup x=acc.lookup x
 | [],_,_,_,_=>rfl
 | (y,k)::r,n,acc,x,h=>by
  have a:(x,NameKind.cell)∉r:=λq=>h (vp _ q)
  unfold cellsFrom;split
  .rename_i hk;rw[Aw r _ _ x a,lookup_cons];cases hx:x==y with
   | true=>rw[beq_iff_eq.mp hx,beq_iff_eq.mp hk]at h;exact uf vq h
   | false=>rfl
  .exact Aw r n acc x a
theorem Av:∀(names:List (Str×NameKind)) (a n:Nat) (acc:List (Str×Addr)) (x:Str) (c:Addr),a<=n->((x,NameKind.cell)∈names\/∀c,acc.lookup x=some c->a<=c)->(cellsFrom n names acc).lookup x=some c->a<=c
 | [],_,_,_,_,c,_,h,e=>h.elim (λz=>by simp at z) λz=>z c e
 | (y,k)::r,a,n,acc,x,c,hn,h,e=>by
  unfold cellsFrom at e;split at e
  .refine Av r a (n+1) _ x c ⋯ ?_ e;rcases h with h | h
   .rcases mem_cons.mp h with q | q
    .cases q;exact .inr λc q=>by rw[lookup_cons,beq_self_eq_true]at q;cases q;exact hn
    .exact .inl q
   .refine .inr λc q=>?_
    rw[lookup_cons]at q;cases hx:x==y with
    | true=>rw[hx]at q;cases q;exact hn
    | false=>rw[hx]at q;exact h c q
  .rename_i hk;refine Av r a n acc x c hn ?_ e
   grind
theorem wI:∀(names:List (Str×NameKind)) (h:Heap) (acc:List (Str×Addr)) (x:Str) (c:Addr),(cellsFrom h.objs.size names acc).lookup x=some c->acc.lookup x=some c\/(pushCells h names).IsCell c none
 | [],_,_,_,_,e=>.inl e
 | (y,k)::r,h,acc,x,c,e=>by
  unfold cellsFrom at e;unfold pushCells;split
  .rename_i hk;rw[vd hk]at e;rw[<-Heap.size_push h {cls:=.type "cell",data:=.cell none}]at e;rcases wI r _ _ x c e with q | q
   .rw[lookup_cons]at q;cases hx:x==y with
    | true=>
     rw[hx]at q;cases q;exact .inr ⟨_,pushCells_keeps _ _ _ _ (Heap.get?_push_size _ rfl),rfl⟩
    | false=>rw[hx]at q;exact .inl q
   .exact .inr q
  .rename_i hk;rw[vc hk]at e;exact wI r h acc x c e
def vM{E:Nz}{Q:Env->Shared->Prop}
  (h:Q (newEnv scope s.heap.objs.size globals (cellsFrom (s.heap.objs.size+1) scope.names cl) qual none .none (some env) builtinsNs) {s with heap:=pushCells (s.heap.push {cls:=.type "dict",data:=.dict #[]}) scope.names}) :
  wpAny M A (newFunctionEnv scope globals cl [] qual none .none (some env)) Q E s:=by
 simp only[newFunctionEnv,Option.isSome_some,if_true];refine uh (wpAny_alloc ?_);refine uh (wpAny_layCells _ (λc a b=>by cases hkc:a==NameKind.cell<;>simp[hkc]) _ _ _ _ ?_);rw[show({s with heap:=s.heap.push {cls:=.type "dict",data:=.dict #[]}}:Shared).heap.objs.size=s.heap.objs.size+1 from Heap.size_push ..];rw[forIn_nil];exact uh (ug (ug h))
noncomputable def mG(X:Cx)(scope:Scope)(ow:L8)(ci:L6)(C:Addr)(s₀:Shared)(H₀:Hp)(ex:L7)(pn:Ny):Cx:=
 {X with N:=ow++ci.map λj=>X.N.getD j "",s₀:=s₀,H₀:=H₀,env:=compEnvC scope (cellsFrom (C+1) scope.names (cX X.env scope.names [])) C X.env,outer:=X.stack,stack:=X.stack,ex:=ex,fn:=λx=>scope.names.lookup x==some .cell,pn:=pn,xe:=λq q=>False}
structure bM(X:Cx)(scope:Scope)(ow:L8)(ci:L6):Prop where
 kind:scope.kind = .function
 cell:∀y∈scope.names,y.2 = .cell->scope.names.lookup y.1=some .cell
 names:∀y∈scope.names,y.2 = .local->scope.names.lookup y.1=some .local
 free:∀y∈scope.names,y.2 = .free->X.env.kindOf y.1=some .cell\/X.env.kindOf y.1=some .free
 ix:∀j∈ci,j<X.N.length/\scope.names.lookup (X.N.getD j "")=some .free
noncomputable def nC(cT:Scope)(N:L8)(scope:Scope)(ci:L6):Bool:=
 scope.kind == .function&&scope.names.all (λy=>y.2 != .cell||scope.names.lookup y.1==some .cell)&&scope.names.all (λy=>y.2 != .local||scope.names.lookup y.1==some .local) &&
 scope.names.all (λy=>y.2 != .free||cT.names.lookup y.1==some .cell||cT.names.lookup y.1==some .free)&&ci.all (λj=>decide (j<⇑N)&&scope.names.lookup (N.getD j "")==some .free)
def bM.of(a:Scope)(N:L8)(c:X.env.scope=a)(d:X.N=N)(h:nC a N scope ci=true):bM X scope ow ci:=by
 subst c d;unfold nC at h;simp only[Bool.and_eq_true,all_eq_true,Bool.or_eq_true,bne_iff_ne,ne_eq,beq_iff_eq,decide_eq_true_eq]at h;let⟨⟨⟨⟨f,g⟩,i⟩,k⟩,l⟩:=h;refine⟨f,λy b e=>(g y b).resolve_left λz=>z e,λy b e=>?_,λy b e=>?_,λj m=>l j m⟩
 .rcases i y b with z | z
  .exact uf e z
  .exact z
 .rcases k y b with(z | z) | z
  .exact uf e z
  .exact .inl z
  .exact .inr z
def jW{a:Hp}(N:L8)(e:X.N=N)(h:(ow++ci.map λj=>N.getD j "").Nodup):(mG X scope ow ci C s₀ a ex pn).N.Nodup:=by
 subst e;exact h
noncomputable def nA(σ:St)(j:Nat):N3:=match σ[j]? with | some o=>o | none=>none
noncomputable def cW(n:Nat)(ci:L6)(σ:St):St:=List.replicate n none++ci.map (nA σ)
def nP(wi:TI)(n:Nat)(ci:L6)(g:TG)(tf:TT)(te:TE):TE:=λσ H Q=>wi σ H λJ H1=>∃W:Nat->Nat->N2->Hp->Prop,(∃m,W 0 m [] H1)/\∀i m ys H,W i m ys H->
 (J.stop i H/\⇑ys<=sizeLine/\∀p,H p=none->Q (.ref p) (upd H p (.lst ys)))\/
 (J.go i H/\∃N:N2->Hp->Prop,(∀ys' H',N ys' H'->∃m',m'<m/\W (i+1) m' ys' H')/\∀x H',J.lF i H x H'->g x (cW n ci σ) H' λσ2 H2=>tf σ2 H2 λb H3=>
  if b=true then te σ2 H3 λv H4=>⇑ys<sizeLine/\N (ys++[v]) H4 else N ys H3)
section
variable{X:Cx}{pins:Ny}{σ:St}{H:Hp}{s:Shared}{elt iter tg:Expr}{ifs:Nt}{scope:Scope}{pos:Pos}{ow:L8}{ci:L6}{g:TG}{tf:TT}{te:TE}
def bM.cells(S:bM X scope ow ci)(b:X.Ok):∀y∈scope.names,y.2 = .free->∃c,X.env.cells.lookup y.1=some c:=λy a e=>b.has y.1 (S.free y a e)
def bM.sub(S:bM X scope ow ci)(a:X.Ok):∀x c,(cX X.env scope.names []).lookup x=some c->X.env.cells.lookup x=some c:=
 W5 scope.names [] (S.cells a) λq q e=>by simp at e
def bM.u4(S:bM X scope ow ci)(a:X.Ok)(h:(cellsFrom (C+1) scope.names (cX X.env scope.names [])).lookup x=some c):C+1<=c\/X.env.cells.lookup x=some c:=
 (Kt _ _ _ _ _ h).imp id (S.sub a x c)
def Lx(S:bM X scope ow ci)(I:Inv X pins σ H s)(f:s.heap.objs.size<=C)
  (a:∀b∈ex,b<s.heap.objs.size/\fw X pins H b):(mG X scope ow ci C s H ex pn).Ok where
 mod:=I.ok.mod
 kind:=S.kind
 glob:=I.ok.glob
 blt:=I.ok.blt
 above:=f
 inj:=Au scope.names (C+1) _ (λx c e=>by
   let⟨v,q⟩:=I.cell x c (S.sub I.ok x c e);exact Nat.lt_succ_of_le (vY (Nat.lt_of_lt_of_le q.lt f))) λx y c i j=>I.ok.inj x y c (S.sub I.ok x c i) (S.sub I.ok y c j)
 has:=λx h=>by
  have n:∃k,(relabel scope X.env).names.lookup x=some k/\(k = .cell\/k = .free):=by
   rcases h with h | h
   .exact⟨_,h,.inl rfl⟩
   .exact⟨_,h,.inr rfl⟩
  let⟨k,r,t⟩:=n;let⟨m,l,Z,e⟩:=zJ (env:=X.env) r;have g:m = .cell\/m = .free:=by
   lia
  rcases g with g | g
  .subst g;exact As scope.names _ _ x l
  .subst g;exact Xa scope.names _ _ x (Ku scope.names [] x l)
 rH:=λx c h e=>vW (vW f (Nat.le_succ _)) (Av scope.names (C+1) (C+1) _ x c (vb _) (.inl (PySem.mem_of_lookup (beq_iff_eq.mp h))) e)
 hd:=I.ok.hd
 frames:=I.ok.frames
 tD:=.inl rfl
 vR:=λb d=>⟨vE (Nat.lt_of_lt_of_le (a b d).1 f),λx c e=>(S.u4 I.ok e).elim (λq z=>Nat.lt_irrefl _ (Nat.lt_of_lt_of_le (z▸(a b d).1) (vW f (vW (Nat.le_succ _) q)))) λq=>(a b d).2.2.2.2.2.1 x c q⟩
 bs:=I.bs
 n6:=vW I.ok.n6 I.sz
 mO:=λb o e d=>by
  let⟨Z,Z,Z,p,Z⟩:=(a b d).2;rcases p with z | z
  .exact I.ok.mO b o e z
  .exact uf (Nat.lt_of_lt_of_le (vI e) (vW I.ok.n6 z)) (Nat.lt_irrefl _)
 nD:=λb d z=>by
  let⟨Z,i,j,Z⟩:=(a b d).2;rcases mem_cons.mp (I.iA b z)with e | e
  .exact i e
  .exact j e
 gn:=I.stack
 oU:=I.mu
def FC(S:bM X scope ow ci)(I:Inv X pins σ H s){h:Nw}(A:s.heap.objs.size<=C)
  (D:∀b∈ex,b<s.heap.objs.size/\fw X pins H b) (U:h₁.Ns C h) (k:∀b o,s.heap.get? b=some o->h₁.get? b=some o)
  (y:∀x c,(cellsFrom (C+1) scope.names (cX X.env scope.names [])).lookup x=some c->(cX X.env scope.names []).lookup x=some c\/h₁.IsCell c none) :
  Inv (mG X scope ow ci C s H ex (X.pn++pins)) [] (cW ⇑ow ci σ) H {s with heap:=h₁,toks:=t₁}:=by
 have ok:=Lx (pn:=X.pn++pins) S I A D;refine⟨ok,rfl,I.bare,Un.kept k,⟨h,U,λi x v O f P=>?_⟩,λx c e=>?_,I.cw.fresh A,λx c e=>(S.u4 I.ok e).elim (λq=>I.cw.fresh (vW A (vW (Nat.le_succ _) q))) (I.eS x c),λp W=>?_,I.cw.kept k,?_⟩
 .have l:(ow++ci.map λj=>X.N.getD j "")[i]?=some x:=O;unfold cW at f;by_cases F:i<⇑ow
  .rw[vB #v[F],List.getElem?_replicate,vd F]at f;cases f
  .rw[vC #v[F],vv,List.length_replicate]at f;rw[vC ⋯,vv]at l;cases hj:ci[i-⇑ow]? with
   | none=>rw[hj]at f;cases f
   | some j=>
    rw[hj]at l f;let⟨hl,E⟩:=S.ix j (vm hj);have B:X.N.getD j ""= x:=vL l;have Q:X.N[j]?=some x:=by
     simp_all
    have R:σ[j]?=some (some v):=by
     have a:nA σ j=some v:=vL f;unfold nA at a;cases q:σ[j]? with
     | none=>rw[q]at a;cases a
     | some o=>rw[q]at a;rw[show o=some v from a]
    rw[B]at E;have g:(x,NameKind.free)∈scope.names:=PySem.mem_of_lookup E;have L:=S.free _ g rfl;let⟨m,_,G⟩:=I.loc;have K:si X.env.scope x:=by
     rcases L with q | q
     .exact .inr (.inl q)
     .exact .inr (.inr q)
    let⟨u,r,Y⟩:=G j x v Q R K;refine⟨u,r,.inr ⟨?_,?_⟩⟩
    .rcases P with q | q | q
     .let⟨k',_,h2,h3⟩:=zJ (env:=X.env) q
      lia
     .exact .inl q
     .exact .inr q
    .rcases Y with⟨q,_⟩ | ⟨_,c,T,t⟩
     .have M:X.env.kindOf x=some .local:=q;rcases L with z | z<;>(rw[z]at M;cases M)
     .let⟨N,w⟩:=Ku (env:=X.env) scope.names [] x g;have e:=S.sub I.ok x N w;rw[T]at e;cases e;refine⟨c,?_,t.keeps k⟩;show(cellsFrom (C+1) scope.names (cX X.env scope.names [])).lookup x=some c;rw[Aw scope.names _ _ x λz=>?_]
      .exact w
      .have:=S.cell _ z rfl;rw[E]at this;cases this
 .rcases y x c e with q | q
  .let⟨v,q⟩:=I.cell x c (S.sub I.ok x c q);exact⟨v,q.keeps k⟩
  .exact⟨_,q⟩
 .have J:p∈X.pn++pins:=by
   rcases vh.mp W with z | z
   .exact z
   .cases z
  let⟨e,n,Z,nf,d⟩:=I.pin p J;refine⟨k _ _ e,n,vE (Nat.lt_of_lt_of_le (vI e) A),λz=>?_,d⟩;rcases mem_cons.mp (I.iA p.1 z)with q | q
  .exact Z q
  .exact nf q
 .show(cW ⇑ow ci σ).length=(ow++ci.map λj=>X.N.getD j "").length;simp[cW]
def Inv.forget{S':St}(I:Inv X pins S' H s)(n:Nat)(ci:L6)(a:St)(c:⇑(cW n ci a)=X.N.length)(h:∀i v,n<=i->(cW n ci a)[i]?=some (some v)->S'[i]?=some (some v)):Inv X pins (cW n ci a) H s:=
 I.weak (by rw[c,I.len]) λi v e=>by
  by_cases b:n<=i
  .exact h i v b e
  .unfold cW at e;rw[vB #v[b],List.getElem?_replicate,vd ⋯]at e;cases e
def fY(n:Nat)(g:TG):Prop:=∀x σ H (Q:St->Hp->Prop),g x σ H Q->g x σ H λσ2 H2=>(∀(i:Nat) v,n<=i->σ[i]?=some (some v)->σ2[i]?=some (some v))/\Q σ2 H2
def JM(h:i<n):fY n (bX i):=λx b H Q q=>⟨λj v a e=>by rw[List.getElem?_set_ne ⋯];exact e,q⟩
def YF{K:cg}{n i j:Nat}(hi:i<n)(p:j<n):fY n (mM K 2 (dB (bX i) (dB (bX j) mL))):=λx t H Q q=>by
 let⟨a,o,b,c,d,v,r,f,m,l,g,h,q⟩:=q;refine⟨a,o,b,c,d,v,r,f,m,l,g,h,λk u s e=>?_,q⟩;rw[List.getElem?_set_ne ⋯,List.getElem?_set_ne ⋯];exact e
def wJ{E:Nz}{tn:Nat->Heap->Prop}{RR:Value->Addr->Result->Shared->Prop}(hc:X.calm=true)(S:bM X scope ow ci)(hk:fY ⇑ow g)
  (a:∀C F y ex pn,PG (mG X scope ow ci C F y ex pn) tg g/\PF (mG X scope ow ci C F y ex pn) ifs tf/\PE (mG X scope ow ci C F y ex pn) elt te)
  (I:Inv X pins σ H s) (T:Turn X.prog X.w X.K tg J fp it tn) (st:tn 0 s.heap) (hf:∀b∈fp,fw X pins H b) (Z:N2->Hp->Prop)
  (W:Nat->Nat->N2->Hp->Prop) (w0:∃m,W 0 m [] H)
  (aN:∀i m ys H,W i m ys H->(J.stop i H/\⇑ys<=sizeLine/\Z ys H)\/
   (J.go i H/\∃N:N2->Hp->Prop,(∀aO H',N aO H'->∃m',m'<m/\W (i+1) m' aO H')/\∀x H',J.lF i H x H'->g x (cW ⇑ow ci σ) H' λaP H2=>tf aP H2 λb H3=>
    if b=true then te aP H3 λv H4=>⇑ys<sizeLine/\N (ys++[v]) H4 else N ys H3))
  (aW:∀D C s' H' m ys,Inv X pins σ (upd H' D (.lst ys)) s'->H' D=none->Z ys H'->s'.heap.Ns C m->s.heap.objs.size<=C->C≠D->H' C=none->RR (.ref D) C (.ok .next) s') :
  wpAny (model X.prog X.w) X.A (newList []) (λacc aL=>wpAny (model X.prog X.w) X.A (newFunctionEnv scope X.env.globals (cX X.env scope.names []) [] X.env.qual none .none (some X.env)) (λa6 aM=>
   codeAny (model X.prog X.w) X.A (.compStart (.ListComp elt [⟨tg,iter,ifs,0⟩] scope pos) 0 (.ref it) acc {a6 with scope:=relabel scope X.env}) (RR acc a6.locals) aM) E aL) E s:=by
 refine wpAny_newObj_type (vM ?_);dsimp only;generalize O:({s with heap:=s.heap.push {cls:=.type "list",dict:=none,data:=.seq ([]:L9).toArray}}:Shared)=s3;have e3:s3.heap=s.heap.push {cls:=.type "list",dict:=none,data:=.seq ([]:L9).toArray}:=by rw[<-O]
 rw[<-e3];generalize ad:pushCells (s3.heap.push {cls:=.type "dict",data:=.dict #[]}) scope.names=h₁;have k3:∀b o,s.heap.get? b=some o->s3.heap.get? b=some o:=λb o e=>by rw[e3];exact vJ _ e
 have hsz:s3.heap.objs.size=s.heap.objs.size+1:=by rw[e3,Heap.size_push]
 have I3:Inv X pins σ H s3:=by rw[<-O];exact I.kept (t':=s.toks) λb o e=>vJ _ e
 have b2:s3.heap.get? s.heap.objs.size=some {cls:=.type "list",dict:=none,data:=.seq ([]:L9).toArray}:=by rw[e3];exact Heap.get?_push_size _ rfl
 generalize ac:s.heap.objs.size=D at *;generalize l:s3.heap.objs.size=C at *;have A:D<C:=⋯
 have aq:H D=none:=I.cw.fresh (Nat.le_of_eq ac);have aX:fw X pins H D:=I.gX (Nat.le_of_eq ac) aq;have ae:∀(b:Addr) o,s.heap.get? b=some o->b<D:=λb o e=>by rw[<-ac];exact vI e
 have bb:∀(b:Addr) o,s3.heap.get? b=some o->b<C:=λb o e=>by rw[<-l];exact vI e
 have a8:∀b∈fp,b<D:=λb a=>by
  let⟨o,e,_⟩:=T.obj 0 _ st b a;exact ae b o e
 have G:∀b∈D::fp,b<s3.heap.objs.size/\fw X pins H b:=λb a=>by
  rw[l];rcases mem_cons.mp a with rfl | a
  .exact⟨A,aX⟩
  .exact⟨vZ (a8 b a) A,hf b a⟩
 have kk:∀b o,s3.heap.get? b=some o->h₁.get? b=some o:=λb o e=>by rw[<-ad];exact pushCells_keeps _ _ b o (vJ _ e)
 have M:h₁.Ns C λ_=>none:=by rw[<-ad,<-l];exact(Heap.Ns.new s3.heap (.type "dict")).keeps (pushCells_keeps _ _)
 have ax:∀x c,(cellsFrom (C+1) scope.names (cX X.env scope.names [])).lookup x=some c->(cX X.env scope.names []).lookup x=some c\/h₁.IsCell c none:=λx c e=>by
  rw[<-ad];refine wI scope.names _ _ x c ?_;rw[Heap.size_push,l];exact e
 let⟨hg,au,he⟩:=a C s3 H (D::fp) (X.pn++pins);generalize w:mG X scope ow ci C s3 H (D::fp) (X.pn++pins)=Y at hg au he;have f:Y.prog=X.prog:=by rw[<-w];rfl
 have Yw:Y.w=X.w:=by rw[<-w];rfl
 have YK:Y.K=X.K:=by rw[<-w];rfl
 have YA:Y.A=X.A:=by rw[<-w];rfl
 have Yc:Y.calm=true:=by rw[<-w];exact hc
 have h:Y.env=compEnvC scope (cellsFrom (C+1) scope.names (cX X.env scope.names [])) C X.env:=by rw[<-w];rfl
 have aa:Y.xe=λ_ _=>False:=by rw[<-w];rfl
 have am:Y.fs=mK X.stack:=by rw[<-w];rfl
 have al:Y.ex=D::fp:=by rw[<-w];rfl
 have aU:Y.pn=X.pn++pins:=by rw[<-w];rfl
 have Ys:Y.s₀=s3:=by rw[<-w];rfl
 have YH:Y.H₀=H:=by rw[<-w];rfl
 have YN:⇑(cW ⇑ow ci σ)=Y.N.length:=by rw[<-w];show(cW ⇑ow ci σ).length=(ow++ci.map λj=>X.N.getD j "").length;simp[cW]
 have af:∀b∈D::fp,b≠Y.env.locals/\b∉Y.fs/\b∈Y.ex/\(∀x c,Y.env.cells.lookup x=some c->c≠b)/\∀p∈Y.pn,p.1≠b:=λb a=>by
  let⟨h0,h1,h2,h3,h4,h5⟩:=(G b a).2;refine⟨by rw[h];exact vE (l▸(G b a).1),λz=>?_,by rw[al];exact a,λx c e=>?_,by rw[aU];exact h5⟩
  .rw[am]at z;rcases mem_cons.mp (I.iA b z)with q | q
   .exact h1 q
   .exact h2 q
  .rw[h]at e;rcases S.u4 I.ok e with q | q
   .exact λz=>Nat.lt_irrefl _ (Nat.lt_of_lt_of_le (l▸(G b a).1) (vW (Nat.le_succ _) (z▸q)))
   .exact h4 x c q
 have aD:D∉fp:=λz=>Nat.lt_irrefl _ (a8 D z)
 have aB:∀s4:Shared,Inv Y [] (cW ⇑ow ci σ) H s4->tn 0 s4.heap->s4.heap.PlainList D #[]->
   codeAny (model X.prog X.w) X.A (.compLoop (.ListComp elt [⟨tg,iter,ifs,0⟩] scope pos) 0 (.ref it) (.ref D) (compEnvC scope (cellsFrom (C+1) scope.names (cX X.env scope.names [])) C X.env)) (RR (.ref D) C) s4:=by
  intro s4 J4 Q ag;let⟨m0,w0⟩:=w0;refine mI (λn s'=>∃i ys k H',Inv Y [] (cW ⇑ow ci σ) H' s'/\tn i s'.heap/\(∀b∈fp,H' b=none)/\H' D=none/\s'.heap.PlainList D k/\Vals ys k.toList/\W i n ys H') ?_ m0
   ⟨0,[],#[],H,J4,Q,λb a=>(hf b a).1,aq,ag,.nil,w0⟩
  rintro n s5 ⟨i,ys,k,U,J5,aI,ao,t,⟨aF,b7⟩,R,w5⟩;have vl:⇑ys=k.size:=by have:=⇑R;simpa using this
  have iZ:∀{H':Hp} {s':Shared} {ai:St},Inv Y [] ai H' s'->H' D=none->∀{o:Obj},s'.heap.get? D=some o->(∀v,o.data≠.cell v)->Inv Y [(D,o)] ai H' s':=λ{H' s' ai} K hD o e d=>
   K.pins_of λp hp=>by
    have ep:p=(D,o):=by simpa using hp
    subst ep;let⟨a1,a2,_⟩:=af D vq;exact⟨e,hD,a1,a2,d⟩
  have P5:=iZ J5 t b7 (λv z=>by cases z);have ab:∀{H':Hp},(∀b∈fp,H' b=none)->∀{o:Obj},∀b∈fp,fw Y [(D,o)] H' b:=λ{H'} hn {o} b a=>by
   let⟨a1,a2,a3,a4,a5⟩:=af b (vp _ a);refine⟨hn b a,a1,a2,.inl a3,a4,λp hp=>?_⟩;rcases vh.mp hp with q | q
   .exact a5 p q
   .have ep:p=(D,o):=by simpa using q
    subst ep;exact λz=>aD (by have z':D=b:=z;rw[z'];exact a)
  rcases aN i n ys U w5 with⟨aK,aA,z5⟩ | ⟨go,NN,ar,aJ⟩
  .have d:=T.done Y f Yw YK Yc i [(D,_)] s5 _ U (λ_ _=>False) P5 (ab ao) aI aK;rw[YA]at d;refine cv d λr s6 z_=>?_;obtain⟨hr,J6⟩:=z_
   subst hr;have D6:=(J6.pin (D,_) (mem_append_right _ vq)).1;let⟨mC,av,_⟩:=J6.loc;rw[h]at av;have aw:s6.heap.Ns C mC:=av;have b1:U C=none:=by have:=J6.free;rw[h]at this;exact this
   refine aW D C s6 U mC ys ?_ t z5 aw (vY A) (vO A) b1;have B:=J6.base;rw[am,al,YH,Ys]at B;have aC:∀b o,s.heap.get? b=some o->b≠D/\b≠C:=λb o e=>⟨vE (ae b o e),vE (vZ (ae b o e) A)⟩
   have P:∀b o,s.heap.get? b=some o->b∉fp->b∉D::fp:=λb o e a z=>by
    rcases mem_cons.mp z with q | q
    .exact(aC b o e).1 q
    .exact a q
   have uN:Un (mK X.stack) fp H (upd U D (.lst ys)) s.heap s6.heap:=by
    refine⟨λb o e n a hx=>B.keep b o (k3 b o e) n a (P b o e hx),λb o e n a hx=>B.slot b o (k3 b o e) n a (P b o e hx),λb o e n hx=>?_,λb o e hx=>B.there b o (k3 b o e) (P b o e hx),λb xs q=>?_,λb o u q=>?_,λb ps q=>?_⟩
    .rw[jh (aC b o e).1];exact B.free b o (k3 b o e) n (P b o e hx)
    .rw[jh (je (B.dM b xs q) t)];exact B.dM b xs q
    .rw[jh (je (B.iW b o u q) t)];exact B.iW b o u q
    .let⟨mo,q'⟩:=B.lZ b ps q;exact⟨mo,by rw[jh (je q' t)];exact q'⟩
   have ay:eN X.prog X.w U s6.heap:=by rw[<-f,<-Yw];exact J6.cw
   have az:eN X.prog X.w (upd U D (.lst ys)) s6.heap:=λb u e=>by
    by_cases as:b=D
    .subst as;rw[jA]at e;cases e;exact⟨aA,k.toList,_,R,#v[D6]⟩
    .rw[jh as]at e;exact(ay b u e).lC (λc v _ q=>q) (λc q=>by rw[jh (je q t)];exact q) λc xs q=>by rw[jh (je q t)];exact q
   refine I.sk (by rw[J6.os,Ys,<-O]) uN az J6.bare λb a=>?_
   let⟨h0,h1,h2,h3,h4,h5⟩:=hf b a;exact⟨h3,h1,h4,h5⟩
  .have d:=T.item Y f Yw YK Yc i [(D,_)] s5 _ U (λ_ _=>False) P5 (ab ao) aI go;rw[YA]at d;refine cv d λr s6 z_=>?_;obtain⟨u,hr,h6⟩:=z_
   subst hr;refine cv h6 λ_ s7 z_=>?_;obtain⟨x,H7,J7,r7,y7,ah,aY⟩:=z_
   have aR:=J7.pinned (ab aY) (T.obj _ _ ah);have h8:=hg _ s7 _ H7 x u _ aR r7 (hk _ _ _ _ (aJ x H7 y7));rw[f,Yw,YA,h,aa]at h8;refine cv h8 λ_ s8 z_=>?_;obtain⟨aj,H8,J8,b5,q8⟩:=z_
   have h9:=au _ s8 aj H8 _ J8 q8;rw[f,Yw,YA,h,aa]at h9;refine cv h9 λb s9 z_=>?_;obtain⟨H9,J9,q9⟩:=z_
   have a0:∀{H':Hp} {s':Shared},Inv Y ([(D,({cls:=.type "list",data:=.seq k aF}:Obj))]++hV fp s7.heap) aj H' s'->Inv Y [] (cW ⇑ow ci σ) H' s'/\tn (i+1) s'.heap/\(∀b∈fp,H' b=none)/\H' D=none/\s'.heap.get? D=some {cls:=.type "list",data:=.seq k aF}:=λ{H' s'} K=>by
    have pD:=K.pin (D,_) (mem_append_right _ (mem_append_left _ vq));refine⟨(K.pins_of (pins':=[]) (by simp)).forget _ _ _ YN (λj v hj e=>b5 j v hj e),T.keep _ _ _ ah λb a o e=>(K.pin (b,o) (mem_append_right _ (mem_append_right _ (yc a e)))).1,λb a=>?_,pD.2.1,pD.1⟩;let⟨o,e,_⟩:=T.obj _ _ ah b a;exact(K.pin (b,o) (mem_append_right _ (mem_append_right _ (yc a e)))).2.1
   cases b with
   | false=>
    rw[vc vF]at q9|-;let⟨m',hm,w9⟩:=ar _ _ q9;let⟨K9,b9,aZ,b3,e9⟩:=a0 J9;exact⟨m',hm,i+1,ys,k,H9,K9,b9,aZ,b3,⟨_,e9⟩,R,w9⟩
   | true=>
    rw[vd rfl]at q9|-;have ap:=he _ s9 aj H9 _ J9 q9;rw[f,Yw,YA,h,aa]at ap;refine cv ap λz aG z_=>?_;obtain⟨v,ak,aQ,b8,b4,b6⟩:=z_
    let⟨m',hm,ba⟩:=ar _ _ b6;let⟨aS,aH,an,a7,aV⟩:=a0 aQ;refine wpAny_list_append_plain (hsz:=by rw[<-vl];exact vY b4) ⟨_,aV⟩ λb0 aE a9=>?_
    let⟨a1,a2,a3,a4,a5⟩:=af D vq;have aT:Inv Y [] (cW ⇑ow ci σ) ak {aG with heap:=b0}:=aS.turned (t':=aG.toks) (λb o a e=>(a9.2 b a).trans e) a7 a1 (.inl a3) a4 (λp hp=>a5 p #v[hp]);refine⟨m',hm,i+1,ys++[v],k.push z,ak,aT,T.keep _ _ _ aH λb a o e=>(a9.2 b (λq=>aD (q▸a))).trans e,an,a7,aE,?_,ba⟩;rw[Array.toList_push];exact R.append (.cons b8 .nil)
 have J4:Inv Y [] (cW ⇑ow ci σ) H {s3 with heap:=h₁}:=by
  rw[<-w];exact FC (t₁:=s3.toks) S I3 (Nat.le_of_eq l) G M kk ax
 have Q:tn 0 h₁:=T.keep _ _ _ st λb _ o e=>kk b o (k3 b o e)
 have ag:h₁.PlainList D #[]:=⟨_,kk _ _ b2⟩
 have L:=aB _ J4 Q ag;subst O;exact codeAny_compStart_list L (T.self _ 0 _ _ _ Q L)
variable{wi:TI}
def Jj(P:X.calm=true)(S:bM X scope ow ci)(R:fY ⇑ow g)(hi:PI X tg iter wi)
  (n:∀C c a ex pn,PG (mG X scope ow ci C c a ex pn) tg g/\PF (mG X scope ow ci C c a ex pn) ifs tf/\PE (mG X scope ow ci C c a ex pn) elt te)
  (Y:∀x,foldedSetIterable iter X.env x=pure x:=by intro Z;rfl):PE X (.ListComp elt [⟨tg,iter,ifs,0⟩] scope pos) (nP wi ⇑ow ci g tf te):=by
 intro d s u H Q I h;rw[eval_ListComp];refine wpAny_comprehension_free (use:=none) rfl Y (kC (S.cells I.ok)) S.kind S.names (cv (hi d s u H _ I h) λv s1 L=>cv L λZ s2 M=>?_);let⟨it,fp,tn,J,H2,e,t,T,r,A,W,w0,f⟩:=M;subst e;refine wJ (RR:=λj C=>compPost (model X.prog X.w) X.A X.xe none (EP X d u Q) j C) P S R n t T r A (λi H=>∀p,H p=none->Q (.ref p) (upd H p (.lst i))) W w0 f λD C s' H' m i K O z U N l k=>?_
 refine⟨m,U,λh' q=>⟨.ref D,upd H' D (.lst i),?_,rfl,z D O⟩⟩;let⟨w,y,B,E,F,G⟩:=t.gX (H':=upd H' D (.lst i)) N (by rw[jh l];exact k);exact K.turned (t':=s'.toks) (λb o n e=>(q.2 b n).trans e) w y E F G
def X3(hc:X.calm=true)(S:bM X scope ow ci)(hk:fY ⇑ow g)(hN:X.N.Nodup)(A:X.N[i]?=some x)(hx:Loc X.env.scope x)(hi:PI X tg iter wi)
  (t:∀C f c ex pn,PG (mG X scope ow ci C f c ex pn) tg g/\PF (mG X scope ow ci C f c ex pn) ifs tf/\PE (mG X scope ow ci C f c ex pn) elt te)
  (y:swapsWith (.ListComp elt [⟨tg,iter,ifs,0⟩] scope pos) (some (.Name x px)) spos.line X.env=pure true:=by rfl)
  (hf:X.fn x=true\/X.env.scope.names.lookup x=some .local:=by and_intros)
  (hs:∀x,foldedSetIterable iter X.env x=pure x:=by intro _;rfl):PS X (.Assign [.Name x px] (.ListComp elt [⟨tg,iter,ifs,0⟩] scope pos) spos) (nM (nP wi ⇑ow ci g tf te) (bX i)):=by
 intro d s M H D I h;rw[exec_Assign_Name_used _ _ _ _ y];refine uh (wpAny_standAt (uh ?_));show wpAny _ X.A (do let _ <-comprehension (.ListComp elt [⟨tg,iter,ifs,0⟩] scope pos) scope X.env _ (newList []) false (eval iter X.env) (some (assign (.Name x px) X.env))) _ _ s;refine uh (wpAny_mono (wpAny_comprehension_free (use:=some (assign (.Name x px) X.env)) (Q:=λ_ j=>SP X d D .next j) rfl hs (kC (S.cells I.ok)) S.kind S.names
  (cv (hi d s M H _ I h) λv s1 h1=>cv h1 λa0 s2 h2=>?_)) (λ_ j hq=>ug (ug hq)) λ_ _ e=>e)
 let⟨it,fp,tn,J,H2,e,F,T,B,R,W,w0,k⟩:=h2;subst e;refine wJ (RR:=λl C=>compPost (model X.prog X.w) X.A X.xe (some (assign (.Name x px) X.env)) (λ_ j=>SP X d D .next j) l C) hc S hk t F T B R
  (λE H=>∀p,H p=none->bX i (.ref p) M (upd H p (.lst E)) D.nx) W w0 k λP C j H' m E K hD z hn hC r n=>?_
 let⟨O,G,U,Y,L,Z⟩:=F.gX (H':=upd H' P (.lst E)) hC (by rw[jh r];exact n);show wpAny _ X.A (assign (.Name x px) X.env (.ref P)) _ _ j;refine wpAny_assign_Name (xD K hN A hx (v:=.ref P) rfl (λs3 N z_=>?_) hf);let⟨a,w,ha⟩:=z_;refine⟨m,hn.sameBut w ?_,λh' u=>?_⟩
 .rcases ha with q | q
  .rw[q];exact G
  .exact λz=>L x a q z.symm
 .exact⟨_,_,N.turned (t':=s3.toks) (λb o t e=>(u.2 b t).trans e) O G Y L Z,z P hD⟩
def wK{lo:Int}{n k:Nat}{ci:L6}{g:TG}{q:TT}{o:TE}{r:St}{H:Hp}{Z:Addr->N2->Hp->Prop}(c:Nat->N2->Hp->Prop)(s:c 0 [] H)
  (u:∀i ys H,i<n->c i ys H->g (.int (lo+i)) (cW k ci r) H λa H2=>q a H2 λb h=>if b=true then o a h λv j=>⇑ys<sizeLine/\c (i+1) (ys++[v]) j else c (i+1) ys h)
  (t:∀ys H,c n ys H->⇑ys<=sizeLine/\∀p,H p=none->Z p ys H) :
  ∃W:Nat->Nat->N2->Hp->Prop,(∃m,W 0 m [] H)/\∀i m ys H,W i m ys H->
   ((nV lo n).stop i H/\⇑ys<=sizeLine/\∀p,H p=none->Z p ys H)\/
   ((nV lo n).go i H/\∃N:N2->Hp->Prop,(∀f H',N f H'->∃l,l<m/\W (i+1) l f H')/\∀x H',(nV lo n).lF i H x H'->g x (cW k ci r) H' λa H2=>q a H2 λb h=>
    if b=true then o a h λv j=>⇑ys<sizeLine/\N (ys++[v]) j else N ys h):=by
 refine⟨λi m ys H=>m=n-i/\i<=n/\c i ys H,⟨n,by simp,va _,s⟩,?_⟩;rintro i m ys H ⟨rfl,z,p⟩;by_cases d:i<n
 .refine .inr ⟨d,c (i+1),λf H' w=>⟨n-(i+1),⋯,rfl,d,w⟩,λx H' y=>?_⟩;let⟨e,y⟩:=y;subst e y;exact u i ys _ d p
 .have e:i=n:=⋯
  subst e;exact .inl ⟨vb _,t ys H p⟩
def JC{K:cg}{a:Addr}{xs:N2}{k:Nat}{ci:L6}{g:TG}{r:TT}{o:TE}{s:St}{H:Hp}{Z:Addr->N2->Hp->Prop}(d:Nat->N2->Hp->Prop)(t:d 0 [] H)(z:∀i ys H,i<=⇑xs->d i ys H->bK K H a xs)
  (A:∀i x ys H,xs[i]?=some x->d i ys H->g x (cW k ci s) H λc H2=>r c H2 λb h=>if b=true then o c h λv l=>⇑ys<sizeLine/\d (i+1) (ys++[v]) l else d (i+1) ys h)
  (u:∀ys H,d ⇑xs ys H->⇑ys<=sizeLine/\∀p,H p=none->Z p ys H) :
  ∃W:Nat->Nat->N2->Hp->Prop,(∃m,W 0 m [] H)/\∀i m ys H,W i m ys H->
   ((oh K a).stop i H/\⇑ys<=sizeLine/\∀p,H p=none->Z p ys H)\/
   ((oh K a).go i H/\∃N:N2->Hp->Prop,(∀f H',N f H'->∃n,n<m/\W (i+1) n f H')/\∀x H',(oh K a).lF i H x H'->g x (cW k ci s) H' λc H2=>r c H2 λb h=>
    if b=true then o c h λv l=>⇑ys<sizeLine/\N (ys++[v]) l else N ys h):=by
 refine⟨λi m ys H=>m=⇑xs-i/\i<=⇑xs/\d i ys H,⟨⇑xs,by simp,va _,t⟩,?_⟩;rintro i m ys H ⟨rfl,w,p⟩;have q:=z i ys H w p;by_cases j:i<⇑xs
 .refine .inr ⟨⟨xs,xs[i],q,by simp[j]⟩,d (i+1),λf H' B=>⟨⇑xs-(i+1),⋯,rfl,j,B⟩,λx H' y=>?_⟩;let⟨e,y⟩:=y;subst e;exact A i x ys _ (y xs q) p
 .have e:i=⇑xs:=⋯
  subst e;exact .inl ⟨⟨xs,q,vb _⟩,u ys H p⟩
end
def Ca:(10:Nat)^250<2^831:=by decide +kernel
def Bz(a : -10^250<=x)(b:x<=10^250):Builtin.Int.intBits x<=1048576:=by
 refine vW (PySem.intBits_le_iff.mpr ?_:Builtin.Int.intBits x<=831) nofun;have:x.natAbs<=10^250:=⋯
 exact vD this Ca
def pj(a : -10^250<=x)(b:x<=10^250)(c : -10^250<=y)(d:y<=10^250):IntMulOk x y:=.of_bits (Bz a b) (Bz c d)
section
variable{X:Cx}
def qq:fA X (binaryOp .Mult) (rI IntMulOk λi j=>.int (i*j)):=uF λZ Z Z Z Z Z Z a q=>mul_int q a
def oJ(_ j:Int):Prop:=0<j/\j<=10^250
def so(a:0<j)(b:j<=10^250):oJ i j:=⟨a,b⟩
def Jf:fA X (binaryOp .FloorDiv) (rI oJ λi j=>.int (i/j)):=uF λi j Z Z Z Z Z a q=>by
 have b:(0:Int)<j:=a.1;have c:j<=10^250:=a.2;refine floordiv_int ⋯ ?_ (.inl (PyProof.noPylong_of_log2 ?_))
 .rw[Int.fdiv_eq_ediv_of_nonneg _ ⋯];exact q
 .have e:j.natAbs<=10^250:=⋯
  have g:j.natAbs.log2<831:=(Nat.log2_lt ⋯).mpr (vD e Ca);lia
def wG:cV X (.builtin "isinstance") (λxs H Q=>∃x T t b,xs=[x,.ty T]/\gf X.K H x t/\PySem.W.kitOne X.K t (.type T)=some b/\Q (.bl b) H):=by
 intro a s j H xs i Q I r h;let⟨x,T,t,b,rfl,ty,e,q⟩:=h;let⟨u,f,rfl,d,c⟩:=vals2 r;cases(show f=Value.type T from c);exact FV I d ty e λg=>⟨.bl b,H,I.tok _,rfl,q⟩
def Gb{E:Nz}{Q:Nz}(y:A.handled=none)(d:s.heap.IsList l (intItems xs))
  (h:∀h' tk t',(∀b o,s.heap.get? b=some o->h'.get? b=some o)->Q (.int (preSum (numAt xs) xs.size) t') {s with heap:=h',toks:=tk}) :
  wpAny (model prog w) A (call (.builtin "sum") [.ref l]) Q E s:=by
 let⟨o,m,B,n,C⟩:=id d;have f:l≠s.heap.objs.size:=vE (vI m);have g:(intItems xs).size=xs.size:=by simp[intItems]
 have W:=(Walks.list (prog:=prog) (w:=w) (A:=A.in1) y s.heap.objs.size l f (intItems xs)).toS;rw[g]at W;refine call_sum_walkAnyS (wpAny_pyIter_list d ?_);refine⟨s.heap.objs.size,_,_,_,_,_,_,numAt xs,rfl,W,⟨⟨_,Heap.get?_push_size _ rfl,rfl,rfl⟩,d.at λo e=>vJ _ e⟩,λb a=>?_,λi v x=>intItems_at x,λz t' c=>?_⟩
 .rcases mem_cons.mp a with rfl | a
  .simp_all
  .obtain rfl:=vo.mp a;exact vI (vJ _ m)
 .let⟨h',u,p,k,j⟩:=z;have q:u=s.gens:=c.gens;have r:p=s.drawn:=c.drawn;have t:j=s.os:=c.os;subst q r t;exact h h' k t' λb o e=>c.heap b o (λa=>uf (vI e) ((vo.mp a)▸Nat.lt_irrefl _)) (vJ _ e)
def zr(g:X.calm=true):cV X (.builtin "sum") (λxs H Q=>∃(p:Addr) (b:L5),xs=[.ref p]/\bK X.K H p (b.map V.int)/\Q (.int b.sum) H):=by
 intro f s z H xs x Q I r h;let⟨p,b,rfl,j,q⟩:=h;let⟨u,rfl,n⟩:=vals1 r;cases n;let⟨a,m,l,t⟩:=I.list j;have d:IntsAre a b:=intsAre_of m;let⟨y,k⟩:=d.allInts.items;have c:numsOf a.toArray.toList=b:=by rw[show a.toArray.toList=a from rfl,d.numsOf]
 have e:=l.isList;rw[k]at e c;rw[nums_intItems]at c;refine Gb (I.ok.hd g) e λo w v i=>?_
 rw[preSum_eq,take_of_length_le (by simp),c];exact⟨.int b.sum,H,I.kept i,⟨_,rfl⟩,q⟩
end
end L2
namespace Att
open PySem PySem.W PySem.Calls PyProof.Rows
theorem KU:∀(a:L5) (x:Int),x∈a->Builtin.Int.intBits x<=WData.weightAll (a.map WData.int)
 | [],_,h=>by cases h
 | n::r,x,h=>by
  show _<=WData.weight (.int n)+1+WData.weightAll (r.map WData.int);rcases mem_cons.mp h with e | h
  .subst e;have e:Builtin.Int.intBits x=WData.weight (.int x):=by
    unfold Builtin.Int.intBits WData.weight;rfl
   lia
  .have:=KU r x h;lia
def xT{l:OpenLaw}{n:Nat}{q:Program}{c:L8}{D:(Nw)->Heap->Prop}{E:World->Heap->Prop}{d:DefRec}
  (R:l.most=some n) (y:d.params.defaults=[])
  (k:∀(w:World) (e b:Shared) (mg B:Nw) (fa:Addr) (o:Obj) (C u h:Value) (a:Addr) (vs:L9) (g:L5),
   Ground q c [] D w e mg B b.heap->E w b.heap->
   b.heap.get? fa=some o->o.data = .func (docDef d.name d.params d.body d.scope C u h)->b.heap.CodeRec u d.name->mg d.name=↥fa->
   b.heap.get? a=some {cls:=.type "list",data:=.seq vs.toArray}->IntsAre vs g->⇑g<=n->(∀x∈g,Builtin.Int.intBits x<=1048576)->b.gens = #[]->
   codeAny (model l.prog w) callerA (.call (.ref fa) ⟨[.ref a],[]⟩) (λr s'=>r = .ok (.ret (.bool true))/\OldK b.heap s'.heap/\s'.os=b.os/\AllBare s'.gens) b) :
  WalkO q c D E l.row.toRowW d [] (λf vs=>PySem.call f vs):=by
 intro w e b mg B G Y fa o C u h J kV S N v H z O F I Z t m U A P;obtain rfl:J = .none:=Dflts.none H y;obtain rfl:kV = .none:=Dflts.noKw H;let⟨a,vs,g,rfl,rfl,s,j,p⟩:=Fq R t A;have i:∀x∈g,Builtin.Int.intBits x<=1048576:=by
  have W:(WData.list (g.map WData.int)).weight<=2^20:=(layableW_iff.mp (layW_cons m).1).2.2;intro x X;exact vW (KU g x X) W
 refine enter_call (codeAny_mono (k w e b mg B fa o C u h a vs g G Y S (fd_plain N) v z s j p i O) λr s' T=>?_);let⟨rfl,K,L,M⟩:=T;exact⟨.inl ⟨.bool true,.bool true,[],rfl,λ_=>rfl,.bool true,Ff l _,λ_=>⟨List.Pairwise.nil,λ_ Q=>(nomatch Q)⟩⟩,K,L,M⟩
end Att
namespace L2
open PySem PySem.Spec PyProof.Rows
def Hv{l:PySem.W.OpenLaw}{n k:Nat}{q:Program}{i:L8}{J:(Nw)->Heap->Prop}{D:World->Heap->Prop}{d:DefRec}{K:Params->cg}{CX:mZ}{sp:cg->Sp}{x:Str}
  (U:l.most=some n) (z:n<=sizeLine) (t:d.params.defaults=[]) (W:di k callerA)
  (P:∀(w:World) (h:Heap),D w h->(K w.params).In h)
  (F:∀(w:World) (mg:Nw) (fa:Addr) (h:Heap),(K w.params).In h->h.Ns mainGlobals mg->mg d.name=↥fa->
   ∃fd:FuncData,(∀(s:Shared) (u:Value),BindsTo s fd ⟨[u],[]⟩ [(x,u)])/\
    ∀base:Heap,(K w.params).In base->base.Ns mainGlobals mg->eJ l.prog w (K w.params) mg base CX k fa fd [x] (sp (K w.params)))
  (B:∀(K:cg) (H:Hp) (a:Addr) (m:L5),⇑m<=n->(∀x∈m,Builtin.Int.intBits x<=1048576)->pV H->bK K H a (m.map V.int)->sp K [.ref a] H (λv _=>v = .bl true) λ_ _ _=>False)
  (r:∀(H:Hp) (s:Shared) (e:Value) (s':Shared),CX [] H s (λ_ _ _=>False) e s'->False) :
  PySem.W.WalkO q i J D l.row.toRowW d [] (λf vs=>PySem.call f vs):=by
 refine Att.xT U t λw I p mg mb fa o pm X L a vs m G Y ho Z S y j g b c T=>?_
 have C:=P w _ Y;let⟨fd,R,M⟩:=F w mg fa _ C G.T.g y;exact Gp C G.T.g G.T.b G.T.builtins G.T.nolimit T j g (vW b z) W M R (λH N O=>B _ H a m b c N O) λH e s'=>r H p e s'
def SP.nx{R:St->Hp->Prop}(a:∀S' H',R S' H'->D.nx S' H')(h:SP X pins {D with nx:=R} f s):SP X pins D f s:=by
 cases f with
 | next=>let⟨S',H',I,q⟩:=h;exact⟨S',H',I,a _ _ q⟩
 | brk=>exact h
 | cont=>exact h
 | ret u=>exact h
def AY(c:TT)(t u:TS):TS:=λD σ H=>∃R:St->Hp->Prop,(∀S' H',R S' H'->D.nx S' H')/\ry c t u {D with nx:=R} σ H
def qH(j:PT X c tc)(g:lS X a t)(i:lS X b u):PS X (.If c a b pos) (AY tc t u):=by
 intro d s k H D I h;let⟨R,e,h⟩:=h;exact cv (jM j g i d s k H _ I h) λf l q=>q.nx e
open PySem
def jZ:bootBuiltins "len"= some (.builtin "len"):=by decide +kernel
def xV:bootBuiltins "max"= some (.builtin "max"):=by decide +kernel
def xW:bootBuiltins "min"= some (.builtin "min"):=by decide +kernel
def Kr:bootBuiltins "sum"= some (.builtin "sum"):=by decide +kernel
def Zs:bootBuiltins "isinstance"= some (.builtin "isinstance"):=by decide +kernel
def Ar:bootBuiltins "abs"= some (.builtin "abs"):=by decide +kernel
def W2:bootBuiltins "sorted"= some (.builtin "sorted"):=by decide +kernel
def De:bootBuiltins "int"= some (.type "int"):=by decide +kernel
def Ii:bootBuiltins "bool"= some (.type "bool"):=by decide +kernel
def Yz:bootBuiltins "list"= some (.type "list"):=by decide +kernel
def zD:bootBuiltins "tuple"= some (.type "tuple"):=by decide +kernel
def Cs:bootBuiltins "dict"= some (.type "dict"):=by decide +kernel
def xU:bootBuiltins "enumerate"= some (.type "enumerate"):=by decide +kernel
def Ly:bootBuiltins "zip"= some (.type "zip"):=by decide +kernel
def El:bootBuiltins "reversed"= some (.type "reversed"):=by decide +kernel
def BN(K:cg)(t:Value)(h:(t==t)=true):PySem.W.kitOne K t t=some true:=by unfold PySem.W.kitOne;rw[vd h]
def xj(K:cg)(c:(Value.type a==Value.type b)=false)(d:PySem.W.kitMeta b=true)(e:PySem.W.subIn [] (.type a) (.type b)=some v):PySem.W.kitOne K (.type a) (.type b)=some v:=by
 unfold PySem.W.kitOne;rw[vc (by rw[c];exact vF)];show(if PySem.W.kitMeta b=true then _ else _)=_;rw[vd d];exact e
def FT{K:cg}:PySem.W.kitOne K (.type "int") (.type "int")=some true:=BN K _ (by decide +kernel)
def En{K:cg}:PySem.W.kitOne K (.type "tuple") (.type "int")=some false:=xj K (by decide +kernel) (by decide +kernel) (by decide +kernel)
def ES{K:cg}:PySem.W.kitOne K (.type "int") (.type "bool")=some false:=xj K (by decide +kernel) (by decide +kernel) (by decide +kernel)
def WB{K:cg}:PySem.W.kitOne K (.type "tuple") (.type "tuple")=some true:=BN K _ (by decide +kernel)
section
variable{X:Cx}{tg:Expr}
def Dz:tY X (λx lo hi H Q=>∃z,x = .str z/\⇑z<=sizeLine/\Q (.str (Txt.slice z lo hi)) H):=by
 intro b s n H x v p r lo hi o Q I m c g e h;let⟨z,rfl,d,q⟩:=h;let⟨t,rfl⟩:=m;refine⟨"str",_,F.slot_str_getitem.lookup,typeIs_str _ _ _,?_⟩;have a:∀(lo hi:Nu),Q (.str (Txt.slice z lo hi)) H->∀f k,EP X b n Q (.str (Txt.slice z lo hi) f) {s with toks:=k}:=λlo hi q f k=>⟨.str _,H,I.tok _,⟨_,rfl⟩,q⟩
 cases g with
 | none=>
  cases e with
  | none=>exact wpAny_getItem_str_slice (l:=none) (u:=none) (st:=none) c rfl (post_val_or_str ⟨vW (Txt.slice_le z _ _) d,a _ _ q⟩)
  | int j uj=>exact wpAny_getItem_str_slice (l:=none) (u:=some (j,uj)) (st:=none) c rfl (post_val_or_str ⟨vW (Txt.slice_le z _ _) d,a _ _ q⟩)
 | int i ui=>
  cases e with
  | none=>exact wpAny_getItem_str_slice (l:=some (i,ui)) (u:=none) (st:=none) c rfl (post_val_or_str ⟨vW (Txt.slice_le z _ _) d,a _ _ q⟩)
  | int j uj=>exact wpAny_getItem_str_slice (l:=some (i,ui)) (u:=some (j,uj)) (st:=none) c rfl (post_val_or_str ⟨vW (Txt.slice_le z _ _) d,a _ _ q⟩)
def rd_str{R:Str->Prop}(h:R z):∃a,V.str z = .str a/\R a:=⟨z,rfl,h⟩
end
section
variable{X:Cx}{K:cg}
def zI(e:X.K=K):pR X (nK K):=by subst e;exact jw
def IA(e:X.K=K):pR X (oH K):=by subst e;exact jk
def FE(e:X.K=K):cV X (.builtin "len") (λxs H Q=>∃x n,xs=[x]/\rW K x H n/\Q (.int n) H):=by subst e;exact jI
def Y9(e:X.K=K):fA X (compareOp .In) (AQ K false):=by subst e;exact YI
end
mutual
inductive DV(H:Hp):V->PyData->Prop
 | cE:DV H .cE .none
 | bl (b:Bool):DV H (.bl b) (.bool b)
 | int (i:Int):DV H (.int i) (.int i)
 | str (x:Str):DV H (.str x) (.str x)
 | lst {a:Addr} {xs:N2} {ds:List PyData}:H a=some (.lst xs)->gN H xs ds->DV H (.ref a) (.list ds)
 | tup {a:Addr} {xs:N2} {ds:List PyData}:H a=some (.tup xs)->gN H xs ds->DV H (.ref a) (.tuple ds)
inductive gN(H:Hp):N2->List PyData->Prop
 | nil:gN H [] []
 | cons {x:V} {d:PyData} {xs:N2} {ds:List PyData}:DV H x d->gN H xs ds->gN H (x::xs) (d::ds)
end
mutual
theorem DV.mono{H H':Hp}(k:bI H H'):∀{v:V} {d:PyData},DV H v d->DV H' v d
 | _,_,.cE=>.cE
 | _,_,.bl b=>.bl b
 | _,_,.int i=>.int i
 | _,_,.str x=>.str x
 | _,_,.lst e r=>.lst (k _ _ e) (gN.mono k r)
 | _,_,.tup e r=>.tup (k _ _ e) (gN.mono k r)
theorem gN.mono{H H':Hp}(k:bI H H'):∀{vs:N2} {ds:List PyData},gN H vs ds->gN H' vs ds
 | _,_,.nil=>.nil
 | _,_,.cons a r=>.cons (DV.mono k a) (gN.mono k r)
end
section
variable{X:Cx}
mutual
theorem zG{p:St}{H:Hp}(I:Inv X pins p H s):∀{v:V} {d:PyData} {u:Value},DV H v d->RelV v u->∃as,Reads s.heap u d as
 | _,_,_,.cE,r=>⟨_,by cases r;exact Reads.none⟩
 | _,_,_,.bl b,r=>⟨_,by cases r;exact Reads.bool b⟩
 | _,_,_,.int i,r=>by let⟨t,rfl⟩:=r;exact⟨_,Reads.int i t⟩
 | _,_,_,.str x,r=>by let⟨t,rfl⟩:=r;exact⟨_,Reads.str x t⟩
 | _,_,_,.lst e q,r=>by
  cases r;let⟨Z,a,c,g,k⟩:=I.cw _ _ e;let⟨as,f⟩:=KA I q g;exact⟨_,reads_list_at k rfl rfl #v[f]⟩
 | _,_,_,.tup e q,r=>by
  cases r;let⟨a,g,m,Z⟩:=I.tuple (bV.of e);let⟨o,l,h,n,j⟩:=m;let⟨as,f⟩:=KA I q g;exact⟨_,reads_tuple_at l h j #v[f]⟩
theorem KA{d:St}{H:Hp}(I:Inv X pins d H s):∀{vs:N2} {ds:List PyData} {us:L9},gN H vs ds->Vals vs us->∃as,ReadsAll s.heap us ds as
 | _,_,_,.nil,r=>by cases r;exact⟨_,ReadsAll.nil⟩
 | _,_,_,.cons a q,r=>by
  cases r with
  | cons r1 r2=>
   let⟨as,b⟩:=zG I a r1;let⟨e,c⟩:=KA I q r2;exact⟨_,ReadsAll.cons b c⟩
end
def XR(f:X.A.units+64<cLine):fA X (compareOp .Eq) (λx y H Q=>∃d e,DV H x d/\DV H y e/\SeqAt.shaped d=true/\SeqAt.shaped e=true/\Q (.bl (PyData.eqv d e)) H):=by
 intro a s p H x y v u Q I j k h;let⟨d,e,b,c,l,m,q⟩:=h;let⟨n,g⟩:=zG I b j;let⟨o,i⟩:=zG I c k;exact eq_dataH g i l m f ⟨.bl _,H,I,rfl,q⟩
def XS(f:X.A.units+64<cLine):fA X (compareOp .NotEq) (λx y H Q=>∃d e,DV H x d/\DV H y e/\SeqAt.shaped d=true/\SeqAt.shaped e=true/\Q (.bl (!PyData.eqv d e)) H):=by
 intro a s p H x y v u Q I j k h;let⟨d,e,b,c,l,m,q⟩:=h;let⟨n,g⟩:=zG I b j;let⟨o,i⟩:=zG I c k;exact ne_dataH g i l m f ⟨.bl _,H,I,rfl,q⟩
def Ht{us:L9}:∀{a:L5},IntsAre us a->Vals (a.map V.int) us:=by
 induction us with
 | nil=>intro a r;cases r;exact .nil
 | cons u us ih=>
  intro a r;cases r with
  | cons n t r=>exact .cons ⟨t,rfl⟩ (ih r)
def Ks(w:X.calm=true):cV X (.builtin "max") (λxs H Q=>∃(p:Addr) (c:L5),xs=[.ref p]/\bK X.K H p (c.map V.int)/\0<⇑c/\∀m∈c,(∀a∈c,a<=m)->Q (.int m) H):=by
 intro n s L H xs K Q I r h;let⟨p,c,rfl,A,d,q⟩:=h;let⟨u,rfl,E⟩:=vals1 r;cases E;let⟨B,D,C,Z⟩:=I.list A;have k:=intsAre_of D;have l:=C.isList;let⟨xs,e⟩:=k.allInts.items;have b:c=xs.toList.map (·.1):=by rw[<-k.numsOf,<-nums_intItems,<-e]
 have f:0<xs.size:=by
  have g:=d;rw[b,vt,Array.length_toList]at g;exact g
 rw[e]at l;refine max_intList (I.ok.hd w) l f λv G F z y=>?_
 let⟨t,rfl⟩:=intItems_at z;let⟨J,o⟩:=argBest_gt (numAt xs) (xs.size-1);refine⟨.int _,H,I.kept (t':=F) y,⟨_,rfl⟩,q _ ?_ λa i=>?_⟩
 .rw[b,numAt_eq];exact getD_mem (by rw[vt,Array.length_toList];lia)
 .rw[b]at i;let⟨j,x,rfl⟩:=mem_getD i;rw[vt,Array.length_toList]at x;rw[<-numAt_eq];exact o j ⋯
end
section
variable{σ:St}{H:Hp}{Q:VK}
def rd_dget(h:td σ H λx H1=>ty σ H1 λy H2=>∃a v,x = .ref a/\cM H2 a y (some v)/\Q v H2):pA td ty σ H Q:=h
def HY{a:List (TE×TE)}(h:∀p,H p=none->fO a σ (upd H p (.dK [])) λps H2=>H2 p=some (.dK [])/\∃kvs:List (Key×V),ps=kvs.map (λkv=>(kV kv.1,kv.2))/\⇑kvs<=15/\Q (.ref p) (upd H2 p (.dK (cC [] kvs)))):pB a σ H Q:=h
def rd_prN{R:List (V×V)->Hp->Prop}(h:R [] H):fO [] σ H R:=h
def rd_prC{a b:TE}{r:List (TE×TE)}{R:List (V×V)->Hp->Prop}(h:a σ H λx H1=>b σ H1 λy H2=>fO r σ H2 λps c=>R ((x,y)::ps) c):fO ((a,b)::r) σ H R:=h
end
def pZ(K:cg)(a:Addr)(D:List (Str×PyProof.Rows.KTD.Dat)):Prop:=PyProof.Rows.KTD.tabLook (PyProof.Rows.KTD.datLooks λb=>K.lookup b) (λb=>K.lookup b) a D=true
section
variable{X:Cx}
def La:fA X (compareOp .In) (λx y H Q=>∃a k D,x = .str k/\y = .ref a/\pZ X.K a D/\Q (.bl (PyProof.Rows.KTD.inKeys k D)) H):=by
 intro b s f H x y v u Q I c d h;let⟨a,k,D,rfl,rfl,T,q⟩:=h;let⟨t,rfl⟩:=c;cases d;exact PyProof.Rows.KTD.in_text (h₀:=s.heap) ⟨PySem.W.kt_text_in I.gQ T,λj j e=>e⟩ ⟨.bl _,H,I.tok _,rfl,q⟩
end
def Qu{K:cg}{a:Addr}{xs:N2}{k:Nat}{ci:L6}{g:TG}{r:TT}{o:TE}{s:St}{H:Hp}{Z:Addr->N2->Hp->Prop}(d:Nat->N2->Hp->Prop)(t:d 0 [] H)(z:∀i ys H,i<=⇑xs->d i ys H->bV K H a xs)
  (A:∀i x ys H,xs[i]?=some x->d i ys H->g x (cW k ci s) H λc H2=>r c H2 λb h=>if b=true then o c h λv l=>⇑ys<sizeLine/\d (i+1) (ys++[v]) l else d (i+1) ys h)
  (u:∀ys H,d ⇑xs ys H->⇑ys<=sizeLine/\∀p,H p=none->Z p ys H) :
  ∃W:Nat->Nat->N2->Hp->Prop,(∃m,W 0 m [] H)/\∀i m ys H,W i m ys H->
   ((oi K a).stop i H/\⇑ys<=sizeLine/\∀p,H p=none->Z p ys H)\/
   ((oi K a).go i H/\∃N:N2->Hp->Prop,(∀f H',N f H'->∃n,n<m/\W (i+1) n f H')/\∀x H',(oi K a).lF i H x H'->g x (cW k ci s) H' λc H2=>r c H2 λb h=>
    if b=true then o c h λv l=>⇑ys<sizeLine/\N (ys++[v]) l else N ys h):=by
 refine⟨λi m ys H=>m=⇑xs-i/\i<=⇑xs/\d i ys H,⟨⇑xs,by simp,va _,t⟩,?_⟩;rintro i m ys H ⟨rfl,w,p⟩;have q:=z i ys H w p;by_cases j:i<⇑xs
 .refine .inr ⟨⟨xs,xs[i],q,by simp[j]⟩,d (i+1),λf H' B=>⟨⇑xs-(i+1),⋯,rfl,j,B⟩,λx H' y=>?_⟩;let⟨e,y⟩:=y;subst e;exact A i x ys _ (y xs q) p
 .have e:i=⇑xs:=⋯
  subst e;exact .inl ⟨⟨xs,q,vb _⟩,u ys H p⟩
def rd_iTup{K:cg}{b:TE}{c:St}{H:Hp}{R:It->Hp->Prop}(h:b c H λx H1=>∃a,x = .ref a/\(∃xs,bV K H1 a xs)/\R (oi K a) H1):sC K b c H R:=h
def J0{K:cg}{i j:Nat}{a:Addr}{x y:V}{b:St}{H:Hp}{R:St->Hp->Prop}(e:bV K H a [x,y])(h:bX i x b H λS' H'=>bX j y S' H' R):mM K 2 (dB (bX i) (dB (bX j) mL)) (.ref a) b H R:=
 ⟨a,[x,y],rfl,e,rfl,x,[y],rfl,y,[],rfl,rfl,h⟩
def rd_sub{a:St}{H:Hp}{R:St->Hp->Prop}(h:to a H λo H1=>ti a H1 λi H2=>t o i v H2 λb=>R a b):sx to ti t v a H R:=h
def rd_dnew{a:St}{H:Hp}(h:∀p,H p=none->Q (.ref p) (upd H p (.dK []))):nQ a H Q:=h
def rd_dput{b:St}{H:Hp}(h:tv b H λv H1=>td b H1 λx H2=>ty b H2 λy d=>∃a c,x = .ref a/\fP d a y v c/\D.nx b c):pk td ty tv D b H:=h
def rd_bm0{K:cg}{T:String}{r:V->N2->Hp->VK->Prop}{a:TE}{b:St}{H:Hp}{Q:VK}(h:a b H λx H1=>tU K T x H1/\r x [] H1 Q):tG K T r a b H Q:=h
section
variable{X:Cx}{pins:Ny}{σ:St}{H:Hp}{s:Shared}{h':Heap}
def Inv.fW{t':Nat}{ch:L7}(I:Inv X pins σ H s)(f:∀b∈ch,fw X pins H b)(k:∀b o,b∉ch->s.heap.get? b=some o->h'.get? b=some o):Inv X pins σ H {s with heap:=h',toks:=t'}:=by
 have d:∀b u,H b=some u->b∉ch:=λb u e z=>by rw[(f b z).1]at e;cases e
 refine I.step (g':=s.gens) (d':=s.drawn) (ch:=ch) (λb t=>?_) (λb o Z Z a e Z=>k b o a e) (λb o Z Z a e Z=>⟨o.slots,k b o a e⟩) (λZ Z Z Z n=>n)
  (λb o a e=>⟨o,k b o a e⟩) (λZ Z e=>e) (λZ Z Z e=>e) (λb y e=>⟨#[],by rw[e];simp⟩) (λm w=>?_) (λb u e=>?_) I.bare
 .let⟨_,i,_,j,l,p⟩:=f b t;exact⟨j,i,l,p⟩
 .let⟨o,h,g,x,r⟩:=w;exact⟨o,h,g,k _ o (λz=>(f _ z).2.1 rfl) x,r⟩
 .refine(I.cw b u e).lC (λc v a q=>k c v ?_ q) (λZ q=>q) λZ Z q=>q
  rcases a with z | z
  .rw[z];exact d b u e
  .exact d c _ z
def Inv.pair{t':Nat}{ch:L7}{x y:V}{u v:Value}(I:Inv X pins σ H s)(c:∀b∈ch,fw X pins H b)(h:∀b∈ch,b<s.heap.objs.size)(i:RelV x u)(j:RelV y v)
  (g:h'.get? s.heap.objs.size=some {cls:=.type "tuple",data:=.seq #[u,v]}) (k:∀b o,b∉ch->s.heap.get? b=some o->h'.get? b=some o) :
  Inv X pins σ (upd H s.heap.objs.size (.tup [x,y])) {s with heap:=h',toks:=t'}/\∀b∈ch,fw X pins (upd H s.heap.objs.size (.tup [x,y])) b:=by
 have f:∀b∈ch,fw X pins (upd H s.heap.objs.size (.tup [x,y])) b:=λb a=>⟨(jh (vE (h b a))).trans (c b a).1,(c b a).2⟩
 have d:Inv X pins σ (upd H s.heap.objs.size (.tup [x,y])) {s with heap:=s.heap.push {cls:=.type "tuple",data:=.seq #[u,v]},toks:=t'}:=
  I.laid (t':=t') (λb o e=>vJ _ e) (vb _) (show cf X.prog X.w _ _ _ (.tup [x,y])from⟨(by show 2<=sizeLine;decide),[u,v],.cons i (.cons j .nil),IsTup.new _ _⟩)
 refine⟨d.fW (h':=h') (t':=t') f λb o a e=>?_,f⟩;rcases Heap.get?_push_cases e with⟨rfl,rfl⟩ | e
 .exact g
 .exact k b o a e
end
def rD(K:cg)(a:Addr):It:=
 ⟨λi H=>∃xs x,bK K H a xs/\xs[i]?=some x,λi H x H'=>∃T v,x = .ref T/\H T=none/\H'=upd H T (.tup [.int i,v])/\∀xs,bK K H a xs->xs[i]?=some v,λi H=>∃xs,bK K H a xs/\⇑xs<=i⟩
def Gd{P:Program}{w:World}{K:cg}{n:Nt}{k:Nat}{O:Pos}(a e it:Addr)(t:e≠it) :
  Turn P w K (.Tuple n k O) (rD K a) [e,it] e (λi h=>(∃f,IsEnum h e it ((i:Nat):Int) f)/\h.IsListIter it a i) where
 mem:=by simp
 obj:=λi h j b g=>by
  rcases(by simpa using g:b=e\/b=it)with rfl | rfl
  .let⟨f,l⟩:=j.1;exact⟨_,l,λv z=>by cases z⟩
  .let⟨o,e,c,d⟩:=j.2
   simp_all
 keep:=λi h h' j k=>⟨let ⟨f,l⟩:=j.1;⟨f,k e (by simp) _ l⟩,j.2.at λo q=>k it (by simp) o q⟩
 item:=by
  intro X D L C S i A s σ H E I G j J;subst D L C;let⟨xs,x,B,M⟩:=J;let⟨N,Q,p,hz⟩:=I.list B;let⟨u,hu,ru⟩:=Q.get M;let⟨⟨f,l⟩,m⟩:=j;have le:e<s.heap.objs.size:=vI l;have li:it<s.heap.objs.size:=by let⟨o,q,_⟩:=id m;exact vI q
  refine wpAny_pyNext_enum_item l m p.isList (x:=u) #v[hu] t λh' ho r hT a0 hk=>?_
  let⟨U,R⟩:=I.pair (t':=s.toks+1) (ch:=[e,it]) (x:=.int i) (y:=x) G (λb g=>by rcases(by simpa using g:b=e\/b=it)with rfl | rfl<;>assumption) ⟨s.toks,rfl⟩ ru hT
   (λb o g q=>hk b o (λz=>g (by simp[z])) (λz=>g (by simp[z])) q)
  refine⟨_,rfl,wpAny_letOwnedTupleGo_enum ho λZ F T=>?_⟩;have W:=U.fW (h':=Z) (t':=s.toks+1) (ch:=[e,it]) R λb o g q=>(T.2 b λz=>g (by simp[z])).trans q
  exact⟨.ref s.heap.objs.size,_,W,rfl,⟨_,x,rfl,I.cw.fresh (vb _),rfl,λys hy=>by rw[I.fQ hy B];exact M⟩,
   ⟨⟨u,#v[F]⟩,r.at λo q=>(T.2 it t.symm).trans q⟩,λb g=>(R b g).1⟩
 done:=by
  intro X D L C S i A s σ H E I G j J;subst D L C;let⟨xs,B,M⟩:=J;let⟨N,Q,p,hz⟩:=I.list B;let⟨⟨f,l⟩,m⟩:=j;have hl:=⇑Q;exact wpAny_pyNext_enum_end (I.ok.hd S) l m p.isList (by simp;lia) λh' Y=>⟨rfl,I.fW (t':=s.toks) (ch:=[e,it]) G λb o g q=>Y b o (λz=>g (by simp[z])) q⟩
 self:=λ_ _ _ _ _ j h=>let ⟨_,l⟩:=j.1;wpAny_pyIter_enum l h
def oV(K:cg)(ta:TA):TI:=λσ H R=>ta σ H λvs H1=>∃a xs,vs=[.ref a]/\bK K H1 a xs/\R (rD K a) H1
def wm{X:Cx}{a:Expr}{n:TA}{f:Nt}{k:Nat}{p i j:Pos}(v:Gl X "enumerate")(x:X.mg "enumerate"= none)(r:PA X [a] n)(z:starEach [a] X.env=[(false,eval a X.env)]:=by rfl) :
  PI X (.Tuple f k j) (.Call (.Name "enumerate" p) [a] [] i) (oV X.K n):=by
 intro g s F H R I h;refine Call_ (Zv I v x xU (PyProof.Rows.callWith_type1 (cv (r i g s F H _ I h) λL e z_=>?_) z rfl));obtain⟨M,o,d,D,C⟩:=z_;let⟨b,N,rfl,y,q⟩:=C;let⟨u,rfl,E⟩:=vals1 D;cases E;let⟨B,K,p,J⟩:=d.list y;refine call_enumerate_list p.isList λG m l A w=>?_
 refine wpAny_pyIter_enum m ?_;refine⟨e.heap.objs.size+1,[e.heap.objs.size+1,e.heap.objs.size],_,_,o,rfl,d.kept (t':=e.toks) w,Gd b _ _ (Nat.succ_ne_self _),⟨⟨_,#v[m]⟩,l⟩,λc t=>?_,q⟩;rcases(by simpa using t:c=e.heap.objs.size+1\/c=e.heap.objs.size)with rfl | rfl
 .exact d.gX (Nat.le_succ _) (d.cw.fresh (Nat.le_succ _))
 .exact d.gX (vb _) (d.cw.fresh (vb _))
def kF{K:cg}{a:Addr}{xs:N2}{g:TG}{l:TS}{D:Ends}{c:St}{H:Hp}(d:Nat->St->Hp->Prop)(n:d 0 c H)(u:∀i c H,i<=⇑xs->d i c H->bK K H a xs)
  (w:∀i v c H T H',xs[i]?=some v->d i c H->bI H H'->H' T=some (.tup [.int i,v])->g (.ref T) c H' λf H2=>l {D with nx:=d (i+1),ct:=d (i+1),bk:=D.nx} f H2) (s:∀c H,d ⇑xs c H->D.nx c H) :
  ∃W:Nat->Nat->St->Hp->Prop,(∃m,W 0 m c H)/\∀i m c H,W i m c H->
   ((rD K a).stop i H/\D.nx c H)\/((rD K a).go i H/\∃N:St->Hp->Prop,(∀S' H',N S' H'->∃k,k<m/\W (i+1) k S' H')/\∀x H',(rD K a).lF i H x H'->g x c H' λf H2=>l {D with nx:=N,ct:=N,bk:=D.nx} f H2):=by
 refine⟨λi m c H=>m=⇑xs-i/\i<=⇑xs/\d i c H,⟨⇑xs,by simp,va _,n⟩,?_⟩;rintro i m c H ⟨rfl,t,p⟩;have q:=u i c H t p;by_cases j:i<⇑xs
 .refine .inr ⟨⟨xs,xs[i],q,by simp[j]⟩,d (i+1),λS' H' z=>⟨⇑xs-(i+1),⋯,rfl,j,z⟩,λx H' y=>?_⟩;let⟨T,v,rfl,r,e,y⟩:=y;exact w i v c H T H' (y xs q) p (λb o h=>by rw[e,jh (je h r)];exact h) (by rw[e];exact jA)
 .have e:i=⇑xs:=⋯
  subst e;exact .inl ⟨⟨xs,q,vb _⟩,s c H p⟩
def rd_iEnum{K:cg}{b:TA}{c:St}{H:Hp}{R:It->Hp->Prop}(h:b c H λvs H1=>∃a xs,vs=[.ref a]/\bK K H1 a xs/\R (rD K a) H1):oV K b c H R:=h
def yd{n i j:Nat}(h:i≠j):n+i≠n+j:=λe=>h (Nat.add_left_cancel e)
def W9:entryFor table "dict.update.loop"= some Builtin.«dict.update.loop»:=entryFor_of_tree (by kernel_rfl)
def ZM:plainId "dict.update.loop"= true:=by decide +kernel
def Ga:typeLookup (.type "list") "keys"= pure none:=by rw[typeLookup_type,builtinLookup_eq_fast];kernel_rfl
section
variable{prog:Program}{w:World}{A:Around}{E:Nz}{s:Shared}
def nH{Q:Option Value->Shared->Prop}(p:s.heap.get? a=some o)(m:o.cls = .type "list")(f:o.data = .seq xs k)(n:o.dict=none)(t:A.handled=none)
  (h:∀h' tk,(∀b o,s.heap.get? b=some o->h'.get? b=some o)->Q none {s with heap:=h',toks:=tk}):wpAny (model prog w) A (getAttr? (.ref a) "keys") Q E s:=by
 let⟨c,r,q,x⟩:=o;simp only at m f n;subst m f n;let⟨u,g,d,tk,v⟩:=s;have l:∀j,(⟨u,g,d,j,v⟩:Shared).TypeIs (.ref a) "list":=λZ=>⟨_,p,rfl⟩
 have y:=sub_AttributeError;have z:=F.slot_list_getattribute.lookup;have B:=F.slot_list_getattribute.bind (.ref a);have C:=am_list_getattr_none;unfold getAttr? getAttrBy? getAttrBy
 repeat (any_goals (first | assumption | exact l _ | ((with_reducible show wpAny _ _ (call (Value.builtin "list.__getattribute__") _ _) _ _ _);refine call_meets F.slot_list_getattribute (l _) am_entry_list_getattribute (F.args_list_getattribute_2 _ _) (meets_getattribute_miss_list a xs k x "keys" _ Ga (by decide +kernel) (by decide +kernel)) ⟨p,t,λh' j e i=>?_⟩) | wp_step))
 let⟨G,H,D⟩:=i.there;show wpAny _ _ (getattributeRaised _ _ _ _ _ _ _) _ _ _;unfold getattributeRaised
 repeat (any_goals (first | assumption | wp_step))
 exact h _ _ i.keeps
variable{K:Type}[DecidableEq K]{knd:KeyKind prog w K}
noncomputable def sr(acc:List (K×Value))(ps:List (K×Value)):List (K×Value):=ps.foldl (λacc kv=>stored acc kv.1 kv.2) acc
def EW(acc:List (K×Value))(k:K)(v:Value):⇑(stored acc k v)<=⇑acc+1:=by
 unfold stored;split
 .rw[vt];exact Nat.le_succ _
 .rw[vn];exact vb _
theorem vr{R:Result->Shared->Prop}{d it l:Addr}{items:L9}{res:Value}(M:A.handled=none)(g:d≠it)(p:d≠l)(q:it≠l) :
  ∀(ps:List (K×Value)) (i:Nat) (acc:List (K×Value)) (s:Shared),s.heap.IsListIter it l i->s.heap.IsList l items.toArray->(⇑items=i+⇑ps)->
   (∀j kv,ps[j]?=some kv->∃a key,items[i+j]?=↥a/\IsTup s.heap a #[key,kv.2]/\knd.is kv.1 key=true/\a≠d/\a≠it)->s.heap.DictOf knd d acc->⇑acc+⇑ps<=sizeLine->
   (∀h' tk,(∀b o,b≠d->b≠it->s.heap.get? b=some o->h'.get? b=some o)->h'.DictOf knd d (sr acc ps)->R (.ok (.ret res)) {s with heap:=h',toks:=tk})->
   codeAny (model prog w) A (.builtin "dict.update.loop" ⟨[.ref d,.ref it,rawInt i,res],[]⟩) R s
 | [],i,acc,s,hit,hl,hn,hp,hd,hz,hR=>by
  refine codeAny_builtin W9 ?_;rw[Around.under_plainId ZM _];show wpAny _ A.in1 (pyNext (.ref it) >>= _) _ _ s;refine uh (wpAny_pyNext_list_end (A:=A.in1) M hit hl (by simp;simp at hn;lia) λh' L=>?_);show wpAny _ A.in1 (Builtin.Dict.addKeywords d [] >>= _) _ _ _;refine uh (ug (ug (hR h' s.toks (λb o _ B e=>L b o B e) ?_)));exact hd.extBut L g
 | kv::ps,i,acc,s,hit,hl,hn,hp,hd,hz,hR=>by
  let⟨a,key,U,Z,Y,W,z⟩:=hp 0 kv rfl;refine codeAny_builtin W9 ?_;rw[Around.under_plainId ZM _];show wpAny _ A.in1 (pyNext (.ref it) >>= _) _ _ s;refine uh (wpAny_pyNext_list_item (A:=A.in1) hit hl (x:=.ref a) #v[U] λv r J=>?_);let⟨ot,P,oc,n,od⟩:=Z;have m:v.get? a=some ot:=(J.2 a z).trans P;show wpAny _ A.in1 (holding [Value.ref a] _ >>= _) _ _ _;refine uh (wpAny_holding ?_);refine uh (wpAny_tryCatch ?_);unfold Builtin.Dict.pairItems;refine uh (wpAny_typeOf (T:="tuple") ⟨_,m,oc⟩ ?_);show wpAny _ A.in1 (if((Value.type "tuple"== Value.type "list")||(Value.type "tuple"== Value.type "tuple"))=true then _ else _) _ _ _;rw[vd nofun];refine uh (wpAny_seqItems m od ?_);refine ug ?_;show wpAny _ A.in1 (holding [key,kv.2] (dictSet d key kv.2)) _ _ _;have C:v.DictOf knd d acc:=hd.extBut (λb o B e=>(J.2 b B).trans e) g;refine wpAny_holding (wpAny_dictSet_pairs (s:={s with heap:=v}) Y C (λQ D u=>?_) (by simp at hz;lia));show wpAny _ A.in1 (again _) _ _ _;refine ug ⟨plainId_quiet ZM _,?_⟩;have H:∀b o,b≠d->b≠it->s.heap.get? b=some o->Q.get? b=some o:=λb o c f e=>(u.2 b c).trans ((J.2 b f).trans e)
  have sl:=EW acc kv.1 kv.2;refine vr M g p q ps (i+1) (stored acc kv.1 kv.2) _ (r.at λo e=>(u.2 it g.symm).trans e) (hl.at λo e=>H l o p.symm q.symm e) (by simp at hn;lia) (λj I X=>?_) D (by simp at hz;lia) λS tk k3 E=>?_
  .let⟨N,t,y,G,F,h,k⟩:=hp (j+1) I #v[X];let⟨o',O,r'⟩:=G;exact⟨N,t,by rw[<-y];congr 1;lia,⟨o',H _ _ h k O,r'⟩,F,h,k⟩
  .exact hR S tk (λb o c f e=>k3 b o c f (H b o c f e)) E
end
open PySem PySem.W PyProof.Rows
section
variable{n:Nat}{key:Nat->Int}{p:Array Nat}
noncomputable def Tw(n:Nat)(key:Nat->Int){α:Type}:KasT α->(α->Prop)->Prop
 | .ret a,Q=>Q a
 | .ask i j k,Q=>i<n/\j<n/\Tw n key (k (decide (key i<key j))) Q
theorem Tw.bind{b c:Type}{f:b->KasT c}{Q:c->Prop}:∀{t:KasT b},Tw n key t (λa=>Tw n key (f a) Q)->Tw n key (t.bind f) Q
 | .ret _,h=>h
 | .ask _ _ _,h=>⟨h.1,h.2.1,Tw.bind h.2.2⟩
theorem Tw.mono{d:Type}{Q b:d->Prop}(c:∀a,Q a->b a):∀{t:KasT d},Tw n key t Q->Tw n key t b
 | .ret _,h=>c _ h
 | .ask _ _ _,h=>⟨h.1,h.2.1,Tw.mono c h.2.2⟩
theorem Tw.run{d:Type}{b:Nat->Nat->(Bool->Shared->Prop)->Shared->Prop}{Q:d->Shared->Prop}(c:∀i j C,i<n->j<n->C (decide (key i<key j)) s->b i j C s) :
  ∀{t:KasT d},Tw n key t (λa=>Q a s)->t.kasWp b Q s
 | .ret _,h=>h
 | .ask i j k,h=>c i j _ h.1 h.2.1 (Tw.run c h.2.2)
def Tw.asks{a:Type}{k:Bool->KasT a}{Q:a->Prop}(hi:i<n)(e:j<n)(b:key i<key j->Tw n key (k true) Q)(d:¬key i<key j->Tw n key (k false) Q):Tw n key (.ask i j k) Q:=by
 refine⟨hi,e,?_⟩;by_cases c:key i<key j
 .rw[vG c];exact b c
 .rw[vH c];exact d c
def Pk(n:Nat)(p:Array Nat):Prop:=p.toList.Perm (List.range n)
noncomputable def kv(key:Nat->Int)(p:Array Nat)(i:Nat):Int:=key (p.getD i 0)
def Up(key:Nat->Int)(p:Array Nat)(k:Nat):Prop:=∀i j,i<=j->j<k->kv key p i<=kv key p j
def Dn(key:Nat->Int)(p:Array Nat)(k:Nat):Prop:=∀i j,i<=j->j<k->kv key p j<=kv key p i
def uO(key:Nat->Int)(p:Array Nat)(m q:Nat):Prop:=∀k,m-(q+1)<=k->k<m->kv key p k=kv key p (m-1)
def Pk.size(h:Pk n p):p.size=n:=by have:=h.length_eq;simpa using this
def Pk.lt(h:Pk n p)(a:0<n)(i:Nat):p.getD i 0<n:=by
 rw[Array.getD_eq_getD_getElem?];cases e:p[i]? with
 | none=>exact a
 | some x=>exact v4.mp (h.mem_iff.mp (Array.mem_toList_iff.mpr (Array.mem_of_getElem? e)))
def Pk.of(h:Pk n p)(a:q.Perm p):Pk n q:=(Array.perm_iff_toList_perm.mp a).trans h
def sD(h:a[i]?=b[j]?):kv key a i=kv key b j:=by
 unfold kv;rw[Array.getD_eq_getD_getElem?,Array.getD_eq_getD_getElem?,h]
def Ab(a:j<=p.size)(k:Nat):kv key (kas_rev p i j) k=if i<=k/\k<j then kv key p (i+j-1-k)else kv key p k:=by
 have h:=getElem?_mirror_all (xs:=p) (i:=i) a k;split
 .rename_i c;rw[vd c]at h;exact sD h
 .rename_i c;rw[vc c]at h;exact sD h
def I9(b:src<p.size)(a:d<=src)(k:Nat):kv key (bubble p src d) k=if k=src-d then kv key p src else if src-d<k/\k<=src then kv key p (k-1)else kv key p k:=by
 have h:=getElem?_bubble (xs:=p) b d a k;split
 .rename_i c;rw[vd c]at h;exact sD h
 .rename_i c;rw[vc c]at h;split
  .rename_i c';rw[vd c']at h;exact sD h
  .rename_i c';rw[vc c']at h;exact sD h
def Up.snoc(h:Up key p m)(d:1<=m)(f:¬kv key p m<kv key p (m-1)):Up key p (m+1):=λi j a g=>by
 by_cases e:j<m
 .exact h i j a e
 .have c:j=m:=⋯
  subst c;by_cases b:i=j
  .rw[b];exact vA _
  .have:=h i (j-1) ⋯ ⋯;lia
def Dn.snoc(h:Dn key p m)(d:1<=m)(f:kv key p m<=kv key p (m-1)):Dn key p (m+1):=λi j a g=>by
 by_cases e:j<m
 .exact h i j a e
 .have c:j=m:=⋯
  subst c;by_cases b:i=j
  .rw[b];exact vA _
  .have:=h i (j-1) ⋯ ⋯;lia
theorem AI(a:Pk n p):∀f m,1<=m->m+f<=n->Up key p m->Tw n key (kas_asc p f m) λr=>m<=r/\r<=m+f/\Up key p r/\(r<m+f->kv key p r<kv key p (r-1))
 | 0,m,h1,hn,hu=>⟨vb _,vb _,hu,λh=>uf h (Nat.lt_irrefl _)⟩
 | f+1,m,h1,hn,hu=>by
  refine Tw.asks (a.lt ⋯ _) (a.lt ⋯ _) (λc=>?_) (λc=>?_)<;>simp only[Bool.false_eq_true,if_true,if_false]
  .exact⟨vb _,⋯,hu,λq=>c⟩
  .exact Tw.mono (λr h=>⟨⋯,⋯,h.2.2.1,λb=>h.2.2.2 ⋯⟩) (AI a f (m+1) ⋯ ⋯ (hu.snoc h1 c))
def CG(b:m<=p.size)(a:uO key p m q)(k:Nat):kv key (kas_rev p (m-(q+1)) m) k=kv key p k:=by
 rw[Ab b];split
 .rename_i c;rw[a k c.1 c.2,a _ ⋯ ⋯]
 .rfl
theorem uk:∀f (p:Array Nat) m q,Pk n p->1<=m->m+f<=n->q+1<=m->Dn key p m->uO key p m q->
  Tw n key (kas_desc f p m q) λr=>Pk n r.1/\m<=r.2.1/\r.2.1<=m+f/\Dn key r.1 r.2.1/\r.2.2+1<=r.2.1/\uO key r.1 r.2.1 r.2.2
 | 0,p,m,q,hp,h1,hn,hq,hd,he=>⟨hp,vb _,vb _,hd,hq,he⟩
 | f+1,p,m,q,hp,h1,hn,hq,hd,he=>by
  have t:=hp.size;refine Tw.asks (hp.lt ⋯ _) (hp.lt ⋯ _) (λc=>?_) (λc=>?_)<;>simp only[Bool.false_eq_true,if_true,if_false]
  .have c:kv key p m<kv key p (m-1):=c;split
   .have g:=CG (key:=key) (p:=p) (m:=m) (q:=q) ⋯ he;have d:Pk n (kas_rev p (m-(q+1)) m):=hp.of (mirror_perm _ _ _ _);refine Tw.mono (λr h=>⟨h.1,⋯,⋯,h.2.2.2⟩) (uk f _ (m+1) 0 d ⋯ ⋯ ⋯ (λi j b s=>?_) λk l o=>?_)
    .rw[g,g];exact hd.snoc h1 ⋯ i j b s
    .rw[show k=m+1-1 by lia]
   .refine Tw.mono (λr h=>⟨h.1,⋯,⋯,h.2.2.2⟩) (uk f p (m+1) 0 hp ⋯ ⋯ ⋯ (hd.snoc h1 ⋯) λk l o=>?_);rw[show k=m+1-1 by lia]
  .have c:¬kv key p m<kv key p (m-1):=c;refine Tw.asks (hp.lt ⋯ _) (hp.lt ⋯ _) (λa=>?_) (λa=>?_)<;>simp only[Bool.false_eq_true,if_true,if_false]
   .exact⟨hp,vb _,Nat.le_add_right m (f+1),hd,hq,he⟩
   .have a:¬kv key p (m-1)<kv key p m:=a;refine Tw.mono (λr h=>⟨h.1,⋯,⋯,h.2.2.2⟩) (uk f p (m+1) (q+1) hp ⋯ ⋯ ⋯ (hd.snoc h1 ⋯) λk l o=>?_);rw[Nat.add_sub_cancel];by_cases e:k=m
    .rw[e]
    .rw[he k ⋯ ⋯];lia
def DD(c:Pk n p)(d:1<=m)(k:m<=n)(e:Dn key p m):Tw n key (kas_tail3 m n p) λr=>Pk n r.2/\1<=r.1/\r.1<=n/\Up key r.2 r.1:=by
 have l:=c.size;have a:Pk n (kas_rev p 0 m):=c.of (mirror_perm _ _ _ _);have b:=Ab (key:=key) (p:=p) (i:=0) (j:=m) ⋯;refine Tw.bind (Tw.mono (λr h=>?_) (AI a (n-m) m d ⋯ λi j f g=>?_))
 .exact⟨a,⋯,⋯,h.2.2.1⟩
 .rw[b,b,vd ⟨va _,⋯⟩,vd ⟨va _,g⟩];exact e _ _ ⋯ ⋯
def DC(t:Pk n p)(u:m+1<=n)(o:Dn key p (m+1)):Tw n key (kas_descPart m n p) λr=>Pk n r.2/\1<=r.1/\r.1<=n/\Up key r.2 r.1:=by
 refine Tw.bind (Tw.mono (λr h=>?_) (uk (n-(m+1)) p (m+1) 0 t ⋯ ⋯ ⋯ o λk v w=>by rw[show k=m+1-1 by lia]));let⟨a,b,c,d,e,g⟩:=h;have x:=a.size;split
 .have l:=CG (key:=key) (p:=r.1) (m:=r.2.1) (q:=r.2.2) ⋯ g;exact DD (a.of (mirror_perm _ _ _ _)) ⋯ ⋯ λi j f s=>by rw[l,l];exact d i j f s
 .exact DD a ⋯ ⋯ d
def Lm(g:Pk n p)(t:1<=n):Tw n key (kas_count n p) λr=>Pk n r.2/\1<=r.1/\r.1<=n/\Up key r.2 r.1:=by
 have y:=g.size;refine Tw.bind (Tw.mono (λr h=>?_) (AI (key:=key) g (n-1) 1 ⋯ ⋯ λi j l m=>by rw[show i=j by lia];exact vA _));let⟨a,b,c,d⟩:=h;split
 .exact⟨g,a,⋯,c⟩
 rename_i hne;have w:r<n:=by
  have:r≠n:=λe=>hne (by rw[e];simp)
  lia
 have d:=d ⋯;split
 .refine Tw.asks (g.lt ⋯ _) (g.lt ⋯ _) (λq=>?_) (λq=>?_)<;>simp only[Bool.false_eq_true,if_true,if_false]
  .exact⟨g,a,⋯,c⟩
  .have q:¬kv key p 0<kv key p (r-1):=q;have v:=Ab (key:=key) (p:=p) (i:=0) (j:=r) ⋯;have f:∀i,i<r->kv key p i=kv key p (r-1):=λi u=>by
    have t:=c 0 i (va _) u;have x:=c i (r-1) ⋯ ⋯;lia
   have k:∀i,kv key (kas_rev p 0 r) i=kv key p i:=λi=>by
    rw[v];split
    .rename_i q';rw[f _ q'.2,f _ ⋯]
    .rfl
   refine DC (g.of (mirror_perm _ _ _ _)) ⋯ λi j l m=>?_
   rw[k,k];by_cases e:j=r
   .by_cases o:i=r
    .rw[e,o];exact vA _
    .rw[e,f i ⋯];lia
   .rw[f i ⋯,f j ⋯];exact vA _
 .have s:r=1:=⋯
  subst s;refine DC g ⋯ λi j l m=>?_
  rcases(by lia:(i=0/\j=0)\/(i=0/\j=1)\/(i=1/\j=1))with⟨rfl,rfl⟩ | ⟨rfl,rfl⟩ | ⟨rfl,rfl⟩
  .exact vA _
  .have:kv key p 1<kv key p (1-1):=d;exact Int.le_of_lt this
  .exact vA _
theorem zy(e:Pk n p)(c:k<n)(g:Up key p k):∀f l r,l<=r->r<=k->r-l<=f->(∀i,i<l->kv key p i<=kv key p k)->(∀i,r<=i->i<k->kv key p k<kv key p i)->
  Tw n key (kas_place p k f l r) λm=>m<=k/\(∀i,i<m->kv key p i<=kv key p k)/\∀i,m<=i->i<k->kv key p k<kv key p i
 | 0,l,r,h1,h2,h3,a,b=>⟨⋯,a,λi d=>b i ⋯⟩
 | f+1,l,r,h1,h2,h3,a,b=>by
  unfold kas_place;split
  .exact⟨⋯,a,λi d=>b i ⋯⟩
  refine Tw.asks (e.lt ⋯ _) (e.lt ⋯ _) (λq=>?_) (λq=>?_)<;>simp only[Bool.false_eq_true,if_true,if_false]
  .have q:kv key p k<kv key p ((l+r)/2):=q;exact zy e c g f l _ ⋯ ⋯ ⋯ a λi d h=>by
    have:=g ((l+r)/2) i d h;lia
  .have q:¬kv key p k<kv key p ((l+r)/2):=q;exact zy e c g f _ r ⋯ h2 ⋯ (λi d=>by
    have:=g i ((l+r)/2) ⋯ ⋯;lia) b
theorem DU:∀f (p:Array Nat) k,Pk n p->k+f<=n->Up key p k->Tw n key (kas_bin f p k) λq=>Pk n q/\Up key q (k+f)
 | 0,p,k,hp,hn,hu=>⟨hp,hu⟩
 | f+1,p,k,hp,hn,hu=>by
  have t:=hp.size;refine Tw.bind (Tw.mono (λl h=>?_) (zy hp ⋯ hu k 0 k (va _) (vb _) ⋯ (λi o=>uf o (Nat.not_lt_zero _)) λi e m=>uf e ⋯));let⟨a,b,c⟩:=h;have g:=I9 (key:=key) (p:=p) (src:=k) (d:=k-l) ⋯ ⋯;refine Tw.mono (λq h=>⟨h.1,by rw[show k+(f+1)=k+1+f by lia];exact h.2⟩) (DU f _ (k+1) (hp.of (bubble_perm _ _ _)) ⋯ λi j r s=>?_);rw[g,g,show k-(k-l)=l by lia]
  repeat' split
  all_goals first
   | exact vA _
   | (exfalso;lia)
   | exact Int.le_of_lt (c _ ⋯ ⋯)
   | exact b _ ⋯
   | exact hu _ _ ⋯ ⋯
   | (have e:=b i ⋯;have m:=c (j-1) ⋯ ⋯;lia)
def LN(f:1<=n):Tw n key (kas_sort n) λq=>Pk n q/\Up key q n:=by
 have g:Pk n (List.toArray (List.range n)):=List.Perm.refl _;refine Tw.bind (Tw.mono (λr h=>?_) (Lm (key:=key) g f));let⟨a,b,c,d⟩:=h;split
 .refine Tw.mono (λq h=>⟨h.1,?_⟩) (DU (n-max r.1 1) r.2 (max r.1 1) a ⋯ (by rw[show max r.1 1=r.1 by lia];exact d));have e:max r.1 1+(n-max r.1 1)=n:=⋯
  rw[e]at h;exact h.2
 .have e:r.1=n:=⋯
  exact⟨a,by rw[<-e];exact d⟩
end
section
variable{prog:Program}{w:World}{A:Around}{E:Nz}{s:Shared}
def j1(h:Heap)(as:L7)(key:Nat->Int):Prop:=∀i a,as[i]?=some a->∃o t u n,h.get? a=some o/\o.cls = .type "tuple"/\o.data = .seq #[.int (key i) t,u] n
def j1.keep{key:Nat->Int}(x:j1 h as key)(k:∀a∈as,∀o,h.get? a=some o->h'.get? a=some o):j1 h' as key:=λi a e=>by
 let⟨o,t,u,n,q,r⟩:=x i a e;exact⟨o,t,u,n,k a (vm e) _ q,r⟩
def Mb{key:Nat->Int}(x:j1 s.heap as key)(b:∀i j,i<⇑as->j<⇑as->key i=key j->i=j){C:Bool->Shared->Prop}(hi:i<⇑as)(a:j<⇑as)
  (h:C (decide (key i<key j)) s):kas_ask prog w A (tuples' true) (as.map Value.ref) i j C s:=by
 unfold kas_ask;let⟨o,t,u,n,d,z,k⟩:=x i _ (vz hi);let⟨v,y,g,D,f,B,l⟩:=x j _ (vz a);have m:(as.map Value.ref).getD i Value.none = .ref as[i]:=by rw[vy,vv,vz hi];rfl
 have p:(as.map Value.ref).getD j Value.none = .ref as[j]:=by rw[vy,vv,vz a];rfl
 rw[m,p];refine kat_lt d k f l ?_;show KatLex prog w A true _ C [(.int (key i) t,.int (key j) y),(u,g)] 0 s;refine kat_cons (wpAny_eqBool_int ?_);by_cases c:key i=key j
 .have r:=b i j hi a c;subst r;rw[beq_self_eq_true];have q:u=g:=by
   have e:o=v:=vL (d.symm.trans f)
   lia
  subst q;refine kat_yes (kat_cons (SeqAt.EqAt.same _ _ _ _ _ ?_));refine kat_yes (kat_nil ?_);rw[vH (Int.lt_irrefl _)]at h;exact h
 .rw[beq_false_of_ne c];exact kat_no (oneLt_int h)
theorem Cb{key:Nat->Int}:∀{as:L7} (_:j1 h as key),∃fs,KatTups h (as.map Value.ref) fs/\⇑fs=⇑as/\∀v∈fs,∃n t,v=Value.int n t
 | [],_=>⟨[],KatTups.nil,rfl,λv g=>nomatch g⟩
 | a::r,x=>by
  let⟨o,t,u,n,q,c,d⟩:=x 0 a rfl;let⟨fs,k,l,f⟩:=Cb (key:=λi=>key (i+1)) (as:=r) λi b e=>x (i+1) b #v[e]
  refine⟨.int (key 0) t::fs,KatTups.cons q c d rfl k,by rw[vQ,l,vQ],λv g=>?_⟩;rcases mem_cons.mp g with rfl | g
  .exact⟨_,_,rfl⟩
  .exact f v g
def Lq(vs:L9):(vs.toArray.zip vs.toArray).map (·.2)=vs.toArray:=by
 apply Array.toList_inj.mp;rw[Array.toList_map,Array.toList_zip];exact List.map_snd_zip (vb _)
def Fi(vs:L9):(List.range ⇑vs).map (λi=>vs.getD i Value.none)=vs:=by
 refine ext_getElem (by simp) λi b a=>?_
 rw[getElem_map,getElem_range,vy,vz a];rfl
def Hq:∀{l:L5},⇑l<2->l.Pairwise (·<=·)
 | [],_=>.nil
 | [_],_=>pairwise_singleton _ _
 | _::_::_,h=>uf h (by rw[vQ,vQ];lia)
def GX{key:Nat->Int}{P:PySem.Fin->Shared->Prop}(d:s.heap.get? a=some (seqObj "list" (as.map Value.ref).toArray c0))(S:a∉as)(x:j1 s.heap as key)
  (U:∀i j,i<⇑as->j<⇑as->key i=key j->i=j) (O:⇑as<64)
  (D:∀(q:L6) (h':Heap) (c:Nat),q.Perm (List.range ⇑as)->(q.map key).Pairwise (·<=·)->(∀b o,b≠a->s.heap.get? b=some o->h'.get? b=some o)->
   h'.get? a=some (seqObj "list" ((q.map λi=>as.getD i 0).map Value.ref).toArray c)->P (.done (.ret .none)) {s with heap:=h'}) :
  wpAny (model prog w) A (Builtin.«list.sort» ⟨[.ref a],[]⟩) P E s:=by
 have a5:a<s.heap.objs.size:=vI d;obtain⟨u,k⟩:∃u,(s.heap.update a (Obj.mapSeq λ_=>(#[]:Array Value))).get? a=some (seqObj "list" #[] u):=⟨_,get?_update_seq d λ_=>#[]⟩
 have X:=Heap.SameBut.update s.heap a (Obj.mapSeq λ_=>(#[]:Array Value));rw[list_sort_plain];refine uh (listItems_at (s:=s) d rfl ?_);refine uh (listUpdate_at (s:=s) d rfl ?_ (by rw[size_toArray,vt,sizeLine_eq];lia) (va _));refine uh (seqEpoch_at (n:=u) k rfl ?_);refine uh (wpAny_newTuple ?_ (by show(as.map Value.ref).length<=_;rw[vt,sizeLine_eq];lia));refine uh (wpAny_newList ?_ (va (sizeLine)));refine wpAny_holding ?_;generalize Y:((s.heap.update a (Obj.mapSeq λ_=>(#[]:Array Value))).push (seqObj "tuple" (as.map Value.ref).toArray 0)).push (seqObj "list" #[] 0)=hX;have kX:∀b o,b≠a->s.heap.get? b=some o->hX.get? b=some o:=λb o y e=>by
  rw[<-Y];exact vJ _ (vJ _ ((X.2 b y).trans e))
 have F:hX.get? a=some (seqObj "list" #[] u):=by
  rw[<-Y];exact vJ _ (vJ _ k)
 have xX:j1 hX as key:=x.keep λb y o e=>kX b o (λz=>S (z▸y)) e
 show wpAny (model prog w) A _ P E {s with heap:=hX};dsimp only;have K:(as.map Value.ref).toArray.size=⇑as:=by rw[size_toArray,vt]
 have H:∀q:L6,q.Perm (List.range ⇑as)->(List.map (λi=>(as.map Value.ref).getD i Value.none) q)=(q.map λi=>as.getD i 0).map Value.ref:=λq M=>by
  rw[v6];refine map_congr_left λi B=>?_
  have hl:i<⇑as:=v4.mp (M.mem_iff.mp B);show(as.map Value.ref).getD i Value.none=Value.ref (as.getD i 0);rw[vy,vy,vv,vz hl];rfl
 have g:∀(q:L6),q.Perm (List.range ⇑as)->(q.map key).Pairwise (·<=·)->∀r:Array Value,r=(List.map (λi=>(as.map Value.ref).getD i Value.none) q).toArray->
   P (.done (.ret .none)) {s with heap:=hX.update a (Obj.mapSeq λ_=>r)}:=λq M hs r ho=>by
  subst ho;have o2:=get?_update_seq F λ_=>(List.map (λi=>(as.map Value.ref).getD i Value.none) q).toArray
  have J:=Heap.SameBut.update hX a (Obj.mapSeq λ_=>(List.map (λi=>(as.map Value.ref).getD i Value.none) q).toArray);rw[H q M]at o2 J|-;exact D q _ _ M hs (λb o y e=>(J.2 b y).trans (kX b o y e)) o2
 by_cases l:(as.map Value.ref).toArray.size<2
 .rw[vd l,vd l];refine uh (ug ?_);rw[StateT.run_pure];refine uh (ug ?_);dsimp only;refine uh (seqEpoch_at (n:=u) F rfl ?_);have eo:(arrOf (SortSt.mk' general' ((as.map Value.ref).toArray.zip (as.map Value.ref).toArray) #[] 7 none)).map (·.2)=(List.map (λi=>(as.map Value.ref).getD i Value.none) (List.range ⇑as)).toArray:=by
   have e:=Fi (as.map Value.ref);rw[vt]at e;rw[e];exact Lq _
  rw[eo];refine uh (listUpdate_at (s:={s with heap:=hX}) F rfl ?_ (va _) (by rw[size_toArray,vt,length_range,sizeLine_eq];lia));simp only[bne_self_eq_false,Bool.false_eq_true,if_false];refine ug (g (List.range ⇑as) (List.Perm.refl _) ?_ _ rfl);rw[K]at l;exact Hq (by rw[vt,length_range];exact l)
 .rw[vc l,vc l];rw[K]at l;let⟨fs,kt,kl,ki⟩:=Cb xX;have a0:hX=({s with heap:=hX}:Shared).heap:=rfl;refine uh (kat_kind (s:={s with heap:=hX}) (T:=Value.type "int") kt ⋯ (λv hv=>?_) nofun ?_)
  .let⟨m,t,rfl⟩:=ki v hv;exact Looks.of_pure rfl
  refine uh (wpAny_mono (kat_run (s:={s with heap:=hX}) (ks:=as.map Value.ref) (vs:=as.map Value.ref) (κ:=tuples' true) (Q:=λf I=>∃p:Array Nat,Pk ⇑as p/\Up key p ⇑as/\arrOf f=p.map (kas_item ((as.map Value.ref).toArray.zip (as.map Value.ref).toArray))/\failedOf f=none/\I={s with heap:=hX}) (G:=λp I=>Pk ⇑as p/\Up key p ⇑as/\I={s with heap:=hX})
   rfl (by rw[vt];lia) (by rw[vt];exact O) (λp f I _ a2 a3 N=>⟨p,N.1,N.2.1,a2,a3,N.2.2⟩) ?_) ?_ λ_ _ e=>e)
  .rw[vt];exact Tw.run (n:=⇑as) (key:=key) (λi j C B L hC=>Mb xX U B L hC) (Tw.mono (λq h=>⟨h.1,h.2,rfl⟩) (LN (key:=key) ⋯))
  rintro⟨⟨⟩,f⟩ I ⟨p,Z,hu,R,hf,rfl⟩;dsimp only;rw[kat_snds rfl R];refine uh (seqEpoch_at (n:=u) F rfl ?_);have W:=Z.size;refine uh (listUpdate_at (s:={s with heap:=hX}) F rfl ?_ (va _) (by rw[size_toArray,vt,Array.length_toList,W,sizeLine_eq];lia));rw[hf];simp only[bne_self_eq_false,Bool.false_eq_true,if_false];refine ug (g p.toList Z ?_ _ rfl);refine pairwise_map.mpr (pairwise_iff_getElem.mpr λi j B L a1=>?_);rw[Array.length_toList]at B L;have:=hu i j ⋯ ⋯;unfold kv at this;rw[Array.getD_eq_getD_getElem?,Array.getD_eq_getD_getElem?,Array.getElem?_eq_getElem B,Array.getElem?_eq_getElem L]at this;exact this
end
open PySem PySem.Spec PySem.W PyProof.Rows
section
variable{X:Cx}{pins:Ny}{σ:St}{H:Hp}{s:Shared}
def ni(X:Cx)(pins:Ny)(T:Addr):Prop:=X.s₀.heap.objs.size<=T/\T≠X.env.locals/\(∀x c,X.env.cells.lookup x=some c->c≠T)/\∀p∈X.pn++pins,p.1≠T
def Inv.AK(I:Inv X pins σ H s)(a:s.heap.objs.size<=T):ni X pins T:=by
 let⟨q,b,q,q,c,d⟩:=I.gX (H':=λq=>none) a rfl;exact⟨vW I.sz a,b,c,d⟩
def cf.obj(x:cf P w H h a o):∃u,h.get? a=some u:=by
 cases o with
 | lst xs=>let⟨q,q,q,q,e⟩:=x;exact⟨_,e⟩
 | tup xs=>let⟨q,q,q,u,e,q⟩:=x;exact⟨u,e⟩
 | dK kvs=>let⟨q,q,q,q,u,q,q,e,q⟩:=x;exact⟨u,e⟩
 | dT kvs=>let⟨q,q,q,q,u,q,q,e,q⟩:=x;exact⟨u,e⟩
 | set S n=>let⟨u,q,q,q,e,q⟩:=x;exact⟨u,e⟩
 | ins C dx fs=>let⟨q,q,q,e,q⟩:=x;exact⟨_,e⟩
 | own y=>exact x
 | xd fs=>let⟨q,⟨u,q,q,e,q⟩,q⟩:=x;exact⟨u,e⟩
 | uG lo hi=>let⟨q,q,q,e⟩:=x;exact⟨_,e⟩
 | lU u v=>exact⟨_,x.1⟩
 | pK ps=>exact⟨_,x⟩
 | met f y=>exact⟨_,x⟩
 | ext φ=>exact x.2.1
def Inv.mj{a:Heap}(I:Inv X pins σ H s)(c:∀b o,s.heap.get? b=some o->a.get? b=some o):H a.objs.size=none:=by
 cases e:H a.objs.size with
 | none=>rfl
 | some u=>
  let⟨v,q⟩:=(I.cw _ _ e).obj;exact uf (vI (c _ _ q)) (Nat.lt_irrefl _)
def Inv.sS{a:Heap}(I:Inv X pins σ H s)(h:∀b o,s.heap.get? b=some o->a.get? b=some o):ni X pins a.objs.size:=by
 have f:∀b o,s.heap.get? b=some o->b<a.objs.size:=λb o e=>vI (h b o e)
 let⟨m,⟨o,q,q,d,q⟩,q⟩:=I.loc;have g:=f _ _ d;refine⟨vY (vD I.ok.above g),vO g,λx c e=>?_,λp i=>vE (f _ _ (I.pin p i).1)⟩;let⟨v,o,d,q⟩:=I.cell x c e;exact vE (f _ _ d)
def Inv.pL(I:Inv X pins σ H s)(h:H T=none)(d:ni X pins T)(g:cf X.prog X.w (upd H T o) s.heap T o):Inv X pins σ (upd H T o) s:=by
 have a:∀b u,H b=some u->b≠T:=λb u e z=>by rw[z,h]at e;cases e
 refine I.step (h':=s.heap) (H':=upd H T o) (g':=s.gens) (d':=s.drawn) (t':=s.toks) (ch:=[T]) (λb f=>?_) (λb o Z Z Z e Z=>e) (λb o Z Z Z e Z=>⟨o.slots,e⟩) (λb u f Z n=>?_) (λb u Z e=>⟨u,e⟩)
  (λb k e=>(jh (a _ _ e)).trans e) (λb u v e=>(jh (a _ _ e)).trans e) (λb j e=>⟨#[],by rw[jh (a _ _ e),e];simp⟩) (λm i=>i) (λb u e=>?_) I.bare
 .have e:b=T:=by simpa using f
  subst e;exact⟨.inr d.1,d.2.1,d.2.2.1,d.2.2.2⟩
 .exact(jh λz=>f (by simp[z])).trans n
 .by_cases z:b=T
  .subst z;rw[jA]at e;cases e;exact g
  .rw[jh z]at e;exact(I.cw b u e).lC (λc v Z q=>q) (λc q=>(jh (a _ _ q)).trans q) λc l q=>(jh (a _ _ q)).trans q
theorem Inv.lD:∀(e:List (Addr×HO)) {H:Hp},Inv X pins σ H s->(∀p∈e,H p.1=none/\ni X pins p.1/\∀H',cf X.prog X.w H' s.heap p.1 p.2)->(e.map (·.1)).Nodup->∃H',Inv X pins σ H' s/\bI H H'/\∀p∈e,H' p.1=some p.2
 | [],H,I,_,_=>⟨H,I,bI.refl _,λp d=>nomatch d⟩
 | w::r,H,I,h,nd=>by
  let⟨a,b,c⟩:=h w vq;rw[v9,uo]at nd;have g:=I.pL a b (c _);let⟨H',i,f,m⟩:=Inv.lD r g (λp d=>by
   let⟨j,k,l⟩:=h p (vp _ d);exact⟨(jh λz:p.1=w.1=>nd.1 (by rw[<-z];exact vK.mpr ⟨p,d,rfl⟩)).trans j,k,l⟩) nd.2
  have n:bI H (upd H w.1 w.2):=λb u q=>(jh (je q a)).trans q
  refine⟨H',i,n.trans f,λp d=>?_⟩;rcases mem_cons.mp d with rfl | d
  .exact f _ _ jA
  .exact m p d
end
section
variable{X:Cx}
theorem pM:∀as:L7,Vals (as.map V.ref) (as.map Value.ref)
 | []=>.nil
 | _::r=>.cons rfl (pM r)
def KV.get{κ:Type}:∀{kvs:List (κ×V)} {vs:List (κ×Value)} {i:Nat} {p:κ×V},KV kvs vs->kvs[i]?=some p->∃q,vs[i]?=some q/\p.1=q.1/\RelV p.2 q.2:=by
 intro kvs vs i p h e
 induction h generalizing i with
 | nil=>simp at e
 | cons r t ih=>cases i with
  | zero=>simp at e;subst e;exact⟨_,rfl,r⟩
  | succ i=>exact ih #v[e]
def E5:rX X "dict.update" (λx vs H Q=>∃d o kvs more,x = .ref d/\vs=[.ref o]/\H d=some (.dK kvs)/\H o=some (.dK more)/\d≠o/\⇑kvs+⇑more<=sizeLine/\Q .cE (upd H d (.dK (cC kvs more)))):=by
 intro l s G H x vs v D Q I B A h;let⟨d,o,kvs,more,rfl,rfl,k,p,g,y,q⟩:=h;cases B;let⟨u,rfl,z⟩:=vals1 A;cases z;let⟨E,e,i,m,b⟩:=wN I.cw k;let⟨F,f,j,n,c⟩:=wN I.cw p;refine call_meetsIn PySem.F.slot_dict_update b.typeIs PySem.F.entry_dict_update (PySem.F.args_dict_update_2 _ _) (meets_dict_update (bR X.prog X.w) d o g f) ⟨i,j,b,c,by rw[<-⇑m,<-⇑n];exact y,λr a Z w=>?_⟩;have t:∃q,r.get? d=some q:=let ⟨q,_,_,hq,_⟩:=a;⟨q,hq⟩;have C:=qX more kvs;exact⟨.cE,_,YD (t':=s.toks) I (by rw[k];exact True.intro) w t (wM ⋯ e (n.merge m) a),rfl,q⟩
noncomputable def md(v d:Addr):HO:=.ext λh=>h.get? v=some {cls:=.type "dict_items",data:=.fields #[.ref d]}
def Gz:rX X "dict.items" (λx vs H Q=>∃d kvs,x = .ref d/\vs=[]/\H d=some (.dK kvs)/\∀v,H v=none->Q (.ref v) (upd H v (md v d))):=by
 intro i s y H x vs v t Q I m l h;let⟨d,kvs,rfl,rfl,j,q⟩:=h;cases m;have f:=l.zero;subst f;let⟨w,c,g,r,a⟩:=wN I.cw j;refine call_meetsIn PySem.F.slot_dict_items a.typeIs PySem.F.entry_dict_items (PySem.F.args_dict_items_1 (.ref d)) (meets_dict_items (bR X.prog X.w) d c) ⟨⟨g,a⟩,?_⟩;have e:(s.heap.push {cls:=.type "dict_items",data:=.fields #[.ref d]}).get? s.heap.objs.size=some {cls:=.type "dict_items",data:=.fields #[.ref d]}:=Heap.get?_push_size _ rfl;exact⟨.ref s.heap.objs.size,_,I.laid (t':=s.toks) (o:=md s.heap.objs.size d) (λb u q=>vJ _ q) (vb _) (show cf X.prog X.w _ _ _ (md s.heap.objs.size d)from⟨e,⟨_,e⟩,λn p q k=>k _ q⟩),rfl,q _ (I.cw.fresh (vb _))⟩
noncomputable def iQ(p:Int×Int):Key×V:=(Sum.inl p.1,.int p.2)
def xZ(hc:X.calm=true):cV X (.builtin "sorted") (λxs H Q=>∃(v d:Addr) (kvs:Np),xs=[.ref v]/\H v=some (md v d)/\H d=some (.dK (kvs.map iQ))/\⇑kvs<64/\
  ∀(l:Addr) (as:L7) (ms:Np) (H':Hp),bI H H'->H l=none->H' l=some (.lst (as.map V.ref))->(∀a∈as,H a=none)->ms.Perm kvs->(ms.map (·.1)).Pairwise (·<=·)->⇑as=⇑ms->(∀(i:Nat) (a:Addr) (p:Int×Int),as[i]?=some a->ms[i]?=some p->H' a=some (.tup [.int p.1,.int p.2]))->Q (.ref l) H'):=by
 intro y s σ H xs us Q I r h;let⟨v,d,kvs,rfl,ev,ed,Z,q⟩:=h;let⟨u,rfl,ru⟩:=vals1 r;cases ru;let⟨z1,a4,N,r1,G⟩:=wN I.cw ed;have hv:s.heap.get? v=some {cls:=.type "dict_items",data:=.fields #[.ref d]}:=(I.cw v _ ev).1;let⟨ep,da⟩:=G.dictAt;have lv:=⇑r1;rw[vt]at lv;have nd:(kvs.map (·.1)).Nodup:=by
  have R:(N.map (·.1)).Nodup:=let ⟨_,_,_,_,_,_,_,_,hn⟩:=G;hn;rw[<-r1.keys,v6]at R;refine pairwise_map.mpr ((pairwise_map.mp R).imp λ{a b} h e=>h ?_);show(Sum.inl a.1:Key)=Sum.inl b.1;rw[e]
 refine Calls.call_function_entry kind_sorted plain_sorted entry_sorted (args_sorted1 (.ref v)) ?_;unfold Builtin.«sorted»;refine uh (m:=checkCount "sorted" 1 1 1) (ug ?_);refine uh (kdx_collect (knd:=bR X.prog X.w) (kvs:=N) (ep:=ep) (A:=X.A.in1) (I.ok.hd hc) ⟨_,hv,rfl,rfl⟩ da (by rw[<-lv,sizeLine_eq];lia) λg tk as P C J=>?_);rw[<-lv]at C;refine uh (wpAny_newList ?_ (by rw[vt,C,sizeLine_eq];lia));have K:(g.push (seqObj "list" (as.map Value.ref).toArray 0)).get? g.objs.size=some (seqObj "list" (as.map Value.ref).toArray 0):=Heap.get?_push_size _ rfl;have D:g.objs.size∉as:=λz=>Nat.lt_irrefl _ (J.there z)
 have E:∀i p,kvs[i]?=some p->(λi=>(kvs.getD i (0,0)).1) i=p.1/\(λi=>(kvs.getD i (0,0)).2) i=p.2:=λi p e=>by
  dsimp only;rw[vy,e];exact⟨rfl,rfl⟩
 have xQ:∀i a,as[i]?=some a->∃t u,(g.push (seqObj "list" (as.map Value.ref).toArray 0)).get? a=some {cls:=.type "tuple",data:=.seq #[.int ((λi=>(kvs.getD i (0,0)).1) i) t,.int ((λi=>(kvs.getD i (0,0)).2) i) u]}:=λi a e=>by
  let⟨ky,k,x,O,w,e3⟩:=J.pairs i a e;have f:i<⇑kvs:=by rw[<-C];exact(vx.mp e).1
  let⟨w',e4,a3⟩:=KV.get r1 (i:=i) (p:=iQ kvs[i]) (by rw[vv,vz f];rfl);rw[O]at e4;cases e4;let⟨ek,S,ex⟩:=a3;have T:k=Sum.inl kvs[i].1:=ek.symm;subst T;have U:x = .int kvs[i].2 S:=ex;subst U;let⟨W,Y⟩:=E i _ (vz f);rw[show(λi=>(kvs.getD i (0,0)).1) i=kvs[i].1 from W,show(λi=>(kvs.getD i (0,0)).2) i=kvs[i].2 from Y];rcases Jh (show fB (Sum.inl kvs[i].1) ky=true from w)with⟨n,t,q1,q2⟩ | ⟨n,t,q1,q2⟩
  .cases q1;subst q2;exact⟨t,S,vJ _ e3⟩
  .cases q1
 have xP:j1 (g.push (seqObj "list" (as.map Value.ref).toArray 0)) as (λi=>(kvs.getD i (0,0)).1):=λi a e=>by
  let⟨t,u,z⟩:=xQ i a e;exact⟨_,t,_,_,z,rfl,rfl⟩
 have a0:∀i j,i<⇑as->j<⇑as->(λi=>(kvs.getD i (0,0)).1) i=(λi=>(kvs.getD i (0,0)).1) j->i=j:=λi j f B e=>by
  rw[C]at f B;let⟨W,_⟩:=E i _ (vz f);let⟨Y,_⟩:=E j _ (vz B);rw[W,Y]at e;rcases Nat.lt_trichotomy i j with z | z | z
  .exact uf e (by have:=pairwise_iff_getElem.mp nd i j (by rw[vt];exact f) (by rw[vt];exact B) z;simpa using this)
  .exact z
  .exact uf e.symm (by have:=pairwise_iff_getElem.mp nd j i (by rw[vt];exact B) (by rw[vt];exact f) z;simpa using this)
 refine uh (wpAny_holding (wpAny_call_entry slot_list_sort ⟨_,K,rfl⟩ entry_list_sort (GX (s:={s with heap:=g.push (seqObj "list" (as.map Value.ref).toArray 0),toks:=tk}) K D xP a0 (by rw[C];exact Z) λM F c hq hs kk o2=>⟨_,rfl,?_⟩) (args_list_sort _)));refine ug ⟨_,rfl,?_⟩;have a1:∀b o,s.heap.get? b=some o->b<g.objs.size:=λb o e=>vI (P b o e)
 have k2:∀b o,s.heap.get? b=some o->F.get? b=some o:=λb o e=>kk b o (vE (a1 b o e)) (vJ _ (P b o e))
 have I2:Inv X y σ H {s with heap:=F,toks:=tk}:=I.kept (t':=tk) k2;have hB:H g.objs.size=none:=I.mj P;have nB:=I.sS P;have ha:∀a∈as,H a=none/\ni X y a:=λa h=>⟨I.cw.fresh (vY (J.above a h)),I.AK (vY (J.above a h))⟩
 have L:∀i∈M,i<⇑as:=λi f=>v4.mp (hq.mem_iff.mp f)
 have a2:(((g.objs.size,HO.lst ((M.map λi=>as.getD i 0).map V.ref))::(List.range ⇑as).map λi=>(as.getD i 0,HO.tup [.int (kvs.getD i (0,0)).1,.int (kvs.getD i (0,0)).2])).map (·.1)).Nodup:=by
  rw[v9,uo,v6];have w:(List.range ⇑as).map (Function.comp (λx=>x.1) λi=>(as.getD i 0,HO.tup [.int (kvs.getD i (0,0)).1,.int (kvs.getD i (0,0)).2]))=as:=ext_getElem (by simp) λi g F=>by
   rw[getElem_map,getElem_range];show as.getD i 0=_;rw[vy,vz F];rfl
  rw[w];exact⟨D,J.rise.imp λh=>vE h⟩
 let⟨H',I3,s3,k3⟩:=I2.lD ((g.objs.size,HO.lst ((M.map λi=>as.getD i 0).map V.ref))::(List.range ⇑as).map λi=>(as.getD i 0,HO.tup [.int (kvs.getD i (0,0)).1,.int (kvs.getD i (0,0)).2])) (λp hp=>by
  rcases mem_cons.mp hp with rfl | hp
  .refine⟨hB,nB,λH'=>⟨?_,_,c,pM _,o2⟩⟩;rw[vt,vt,hq.length_eq,length_range,C,sizeLine_eq];lia
  .let⟨i,f,rfl⟩:=vK.mp hp;have f:=v4.mp f;have e:as[i]?=some (as.getD i 0):=by rw[vy,vz f];rfl
   let⟨t1,S,eo⟩:=xQ i _ e;have hm:=vm e;let⟨R,n2⟩:=ha _ hm;exact⟨R,n2,λH'=>⟨(by show 2<=sizeLine;decide),[_,_],.cons ⟨t1,rfl⟩ (.cons ⟨S,rfl⟩ .nil),⟨_,kk _ _ (λz=>D (z▸hm)) eo,rfl,_,rfl⟩⟩⟩) a2
 .refine⟨.ref g.objs.size,H',I3,rfl,q g.objs.size (M.map λi=>as.getD i 0) (M.map λi=>kvs.getD i (0,0)) H' s3 hB (k3 _ vq) (λa h=>?_) ?_ ?_ (by rw[vt,vt]) λi a p O w=>?_⟩
  .let⟨i,f,rfl⟩:=vK.mp h;have e:as[i]?=some (as.getD i 0):=by rw[vy,vz (L i f)];rfl
   exact(ha _ (vm e)).1
  .have e:=hq.map λi=>kvs.getD i (0,0)
   rw[C]at e;have w:(List.range ⇑kvs).map (λi=>kvs.getD i (0,0))=kvs:=ext_getElem (by simp) λi g F=>by
    rw[getElem_map,getElem_range,vy,vz F];rfl
   rw[w]at e;exact e
  .rw[v6];exact hs
  .rw[vv]at O w;let⟨j,B,rfl⟩:=vg.mp O;rw[B]at w;cases w;exact k3 _ (vp _ (vK.mpr ⟨j,v4.mpr (L j (vm B)),rfl⟩))
end
theorem YO:∀{as:L7} {us:L9},Vals (as.map V.ref) us->us=as.map Value.ref
 | [],_,r=>by cases r;rfl
 | a::as,_,r=>by
  cases r with
  | cons r1 r2=>rw[YO r2,show _=Value.ref a from r1];rfl
theorem Bi:∀{as:L7} {kvs:Np},⇑as=⇑kvs->(∀(i:Nat) (a:Addr) (q:Int×Int),as[i]?=some a->kvs[i]?=some q->∃t u,IsTup h a #[.int q.1 t,.int q.2 u])->
  ∃ps:List (Key×Value),KV (kvs.map iQ) ps/\⇑ps=⇑kvs/\∀(j:Nat) (kv:Key×Value),ps[j]?=some kv->∃a key,as[j]?=some a/\IsTup h a #[key,kv.2]/\fB kv.1 key=true
 | [],[],_,_=>⟨[],.nil,rfl,λj kv e=>by simp at e⟩
 | [],_::_,l,_=>by simp at l
 | _::_,[],l,_=>by simp at l
 | a::as,q::kvs,l,f=>by
  let⟨ps,o,p,r⟩:=Bi (as:=as) (kvs:=kvs) #v[l] λi a q m n=>f (i+1) a q #v[m] #v[n]
  let⟨t,u,e⟩:=f 0 a q rfl rfl;refine⟨(Sum.inl q.1,.int q.2 u)::ps,.cons ⟨rfl,u,rfl⟩ o,by rw[vQ,p,vQ],λj kv c=>?_⟩;cases j with
  | zero=>simp at c;subst c;exact⟨a,_,rfl,e,xh _ _⟩
  | succ j=>let⟨b,s,d,g,k⟩:=r j kv #v[c];exact⟨b,s,#v[d],g,k⟩
section
variable{X:Cx}
def EM(G:X.calm=true):cV X (.type "dict") (λxs H Q=>∃(p:Addr) (as:L7) (kvs:Np),xs=[.ref p]/\H p=some (.lst (as.map V.ref))/\⇑as=⇑kvs/\
  (∀(i:Nat) (a:Addr) (q:Int×Int),as[i]?=some a->kvs[i]?=some q->H a=some (.tup [.int q.1,.int q.2]))/\∀d,H d=none->Q (.ref d) (upd H d (.dK (cC [] (kvs.map iQ))))):=by
 intro M s σ H xs us Q I r h;let⟨p,as,kvs,rfl,Z,B,ht,q⟩:=h;let⟨u,rfl,ru⟩:=vals1 r;cases ru;let⟨z,D,n,rv,lv,e⟩:=I.lB Z;have W:=YO rv;subst W;rw[vt]at z;have J:p<s.heap.objs.size:=vI e;let⟨ps,kp,N,pt⟩:=Bi (h:=s.heap) B λi a q S U=>by
  let⟨_,D,r',t'⟩:=I.cw a _ (ht i a q S U);cases r' with
  | cons ra rr=>
   cases rr with
   | cons rb rr=>
    cases rr;let⟨t1,rfl⟩:=ra;let⟨t2,rfl⟩:=rb;exact⟨t1,t2,t'⟩
 refine callType_codes (Q₁:=λt g=>t = .ref s.heap.objs.size/\g={s with heap:=s.heap.push {cls:=.type "dict",data:=.dict #[]}}) PySem.F.kt_called_dict (PySem.F.kt_typeCall_dict_1 (.ref p)) PySem.F.entry_dict_init (kt_code_dict_new (.ref p) ⟨rfl,rfl⟩) ?_;rintro t g ⟨rfl,rfl⟩;have c:(s.heap.push {cls:=.type "dict",data:=.dict #[]}).DictOf (bR X.prog X.w) s.heap.objs.size []:=Heap.DictOf.new s.heap;have v:∀b o,s.heap.get? b=some o->(s.heap.push {cls:=.type "dict",data:=.dict #[]}).get? b=some o:=λb o e=>vJ _ e
 generalize s.heap.push {cls:=.type "dict",data:=.dict #[]}=h0 at c v;refine⟨c.typeIs (s:={s with heap:=h0}),PySem.F.args_dict_init_2 _ _,?_⟩;unfold Builtin.«dict.__init__»;refine uh ?_;unfold Builtin.Dict.selfAndRest;refine uh (wpAny_notOrdered_dict (c.typeIs (s:={s with heap:=h0})) ?_);show wpAny (model X.prog X.w) _ (pure (s.heap.objs.size,[Value.ref p])) _ _ _;refine ug ?_;show wpAny (model X.prog X.w) _ (Builtin.Dict.updateFrom "dict.__init__" s.heap.objs.size (.ref p) [] .none) _ _ _;unfold Builtin.Dict.updateFrom;refine uh (wpAny_typeOf (T:="list") ⟨_,v _ _ e,rfl⟩ ?_);rw[vd nofun];refine uh (nH (s:={s with heap:=h0}) (v _ _ e) rfl rfl rfl (I.ok.hd G) λm tk K=>?_);rw[vd (show(none:Nv).isNone=true from rfl)];have f:∀b o,s.heap.get? b=some o->m.get? b=some o:=λb o e=>K b o (v b o e)
 have k:m.DictOf (bR X.prog X.w) s.heap.objs.size []:=c.keep K;have w:s.heap.objs.size<m.objs.size:=by let⟨_,_,_,hg,_⟩:=k;exact vI hg
 have lp:p<m.objs.size:=vZ J w;refine uh (wpAny_rule ?_);refine uh (wpAny_pyIter_list (l:=p) (items:=(as.map Value.ref).toArray) ⟨_,f _ _ e,rfl,n,rfl⟩ ?_);refine ug ⟨plainId_quiet ZM _,?_⟩;refine vr (knd:=bR X.prog X.w) (A:=X.A.in1) (d:=s.heap.objs.size) (it:=m.objs.size) (l:=p) (items:=as.map Value.ref) (res:=.none) (I.ok.hd G) (vE w) (vO J) (vO lp) ps 0 [] _
  ⟨_,Heap.get?_push_size _ rfl,rfl,rfl⟩ ⟨_,vJ _ (f _ _ e),rfl,n,rfl⟩ (by rw[vt,B,N,Nat.zero_add]) (λj kv Y=>?_) (k.push _) (by rw[length_nil,N,<-B,Nat.zero_add];exact z) λh2 E k2 x=>?_
 .let⟨a,ky,O,⟨o,F,P⟩,R⟩:=pt j kv Y;have L:a<s.heap.objs.size:=vI F;exact⟨a,ky,by rw[Nat.zero_add,vv,O];rfl,⟨o,vJ _ (f _ _ F),P⟩,R,vE L,vE (vZ L w)⟩
 .refine⟨rfl,.ref s.heap.objs.size,upd H s.heap.objs.size (.dK (cC [] (kvs.map iQ))),I.laid (t':=E) (λb o y=>k2 b o (vE (vI y)) (vE (vZ (vI y) w)) (vJ _ (f _ _ y))) (vb _) ?_,rfl,q _ (I.cw.fresh (vb _))⟩;have hm:=qX (kvs.map iQ) [];rw[length_nil,vt]at hm;have C:(s.heap.objs.size==sysModules)=false:=by
   rw[beq_eq_false_iff_ne];exact vO I.big
  exact wM ⋯ C (kp.merge .nil) x
end
theorem wg{H:Hp}:∀(ks:L5),gN H (ks.map V.int) (ks.map PyData.int)
 | []=>.nil
 | k::r=>.cons (.int k) (wg r)
def Iq(ks:L5):PyData.eqv (.list (ks.map PyData.int)) (.list [])=decide (ks=[]):=by
 cases ks<;>simp[PyData.eqv,PyData.eqvAll]
def K3(R:X.A.units+64<cLine):fA X (compareOp .In) (λx y H Q=>∃(a l:Addr) (as:L7) (hs:L1),x = .ref a/\y = .ref l/\H a=some (.lst [])/\H l=some (.lst (as.map V.ref))/\⇑as=⇑hs/\
  (∀(i:Nat) (b:Addr) (ks:L5),as[i]?=some b->hs[i]?=some ks->H b=some (.lst (ks.map V.int)))/\Q (.bl (hs.any λks=>decide (ks=[]))) H):=by
 intro n s T H x y v u Q I K L h;let⟨a,l,as,hs,rfl,rfl,p,A,P,C,q⟩:=h;cases K;cases L;let⟨E,r,F,S⟩:=I.list (bK.of A);have t:=YO r;subst t;let⟨M,G⟩:=zG I (DV.lst p .nil) (show RelV (.ref a) (.ref a)from rfl)
 classical
 have o:∀(i:Nat) (b:Addr) (ks:L5),as[i]?=some b->hs[i]?=some ks->∃c,Reads s.heap (.ref b) (.list (ks.map PyData.int)) c:=λi b ks d f=>zG I (DV.lst (C i b ks d f) (wg ks)) (show RelV (.ref b) (.ref b)from rfl)
 have m:∀(i:Nat) (b:Addr) (ks:L5),as[i]?=some b->hs[i]?=some ks->decide (∃c,Reads s.heap (.ref b) (.list []) c)=decide (ks=[]):=λi b ks d f=>by
  let⟨c,k⟩:=o i b ks d f;rw[decide_eq_decide];constructor
  .rintro⟨N,J⟩;have e:=SeqAt.Reads.unique _ _ _ _ _ (show PyData.canLay0 (.list [])=true from rfl) J k
   simp_all
  .rintro rfl;exact⟨c,k⟩
 refine SeqAt.in_listAt (λw=>decide (∃c,Reads s.heap w (.list []) c)) F.isList (λw j=>?_) ⟨.bl _,H,I,rfl,?_⟩
 .let⟨i,g,e⟩:=mem_iff_getElem.mp (show w∈as.map Value.ref by simpa using j);rw[getElem_map]at e;rw[vt]at g;subst e;have d:as[i]?=some as[i]:=vz g;have f:hs[i]?=some hs[i]:=vz ⋯;let⟨c,k⟩:=o i _ _ d f;have z:=SeqAt.eqAt_reads _ _ X.A.in1 s _ _ _ _ k G (by show PyData.canLayAll0 _=true;exact ke_canLayAll0 _) rfl (by
   show X.A.in1.units+min (PyData.depthAll _+1) (0+1)<cLine;have O:X.A.in1.units=X.A.units+1:=rfl;lia)
  rw[Iq,<-m i _ _ d f]at z;exact z
 .have e:(as.map Value.ref).toArray.any (λw=>decide (∃c,Reads s.heap w (.list []) c))=hs.any λks=>decide (ks=[]):=by
   rw[List.any_toArray,List.any_map,Bool.eq_iff_iff,any_eq_true,any_eq_true];constructor
   .rintro⟨b,B,j⟩;let⟨i,g,rfl⟩:=mem_iff_getElem.mp B;exact⟨hs[i],getElem_mem _,by rw[<-m i _ _ (vz g) (vz ⋯)];exact j⟩
   .rintro⟨ks,D,j⟩;let⟨i,g,rfl⟩:=mem_iff_getElem.mp D;refine⟨as[i],getElem_mem _,?_⟩;show decide _=true;rw[m i _ _ (vz ⋯) (vz g)];exact j
  rw[e];exact q
def rE(K:cg)(a:Addr)(n:Nat):It:=
 ⟨λi H=>∃xs x,bK K H a xs/\i<n/\xs[n-1-i]?=some x,λi H x H'=>H'=H/\∀xs,bK K H a xs->xs[n-1-i]?=some x,λi q=>i=n⟩
def Hr{P:Program}{w:World}{K:cg}{tg:Expr}(a it:Addr)(n:Nat):Turn P w K tg (rE K a n) [it] it (λi h=>h.IsRevIter it a ((n:Int)-1-(i:Nat))) where
 mem:=by simp
 obj:=λi h f b j=>by
  have e:b=it:=by simpa using j
  subst e;let⟨o,e,c,d⟩:=f
  simp_all
 keep:=λi h q f k=>f.at λo e=>k it (by simp) o e
 item:=by
  intro X C D B F i g s L H E I r f m;subst C D B;let⟨xs,x,G,S,J⟩:=m;let⟨W,Z,p,hz⟩:=I.list G;let⟨u,T,Y⟩:=Z.get J;let⟨t,v,R,y,z,A⟩:=r it (by simp);have e:((n:Int)-1-(i:Nat))=((n-1-i:Nat):Int):=⋯
  rw[e]at f;refine wpAny_pyNext_rev_item f p.isList (x:=u) #v[T] λq l sb=>?_
  have M:Inv X g L H {s with heap:=q}:=I.turned (t':=s.toks) (λb o j e=>(sb.2 b j).trans e) t v y z A;have N:(((n-1-i:Nat):Int)-1)=((n:Int)-1-((i+1:Nat):Int)):=⋯
  rw[N]at l;let⟨o,Q,c,d⟩:=id l;exact⟨u,rfl,sI (s:={s with heap:=q}) Q c d nofun ⟨x,H,M,Y,⟨rfl,λys U=>by rw[I.fQ U G];exact J⟩,l,λb j=>(r b j).1⟩⟩
 done:=by
  intro X C D B F i g s L H E I r f m;subst C D B;have m:i=n:=m;subst m;let⟨t,v,R,y,z,A⟩:=r it (by simp);rw[show((i:Int)-1-(i:Nat)) = -1 by lia]at f;exact wpAny_pyNext_rev_end (I.ok.hd F) f λq O=>⟨rfl,I.turned (t':=s.toks) (λb o j e=>O b o j e) t v y z A⟩
 self:=λ_ _ _ _ _ f h=>wpAny_pyIter_revIter f h
def sy(K:cg)(ta:TA):TI:=λσ H R=>ta σ H λvs H1=>∃a xs,vs=[.ref a]/\bK K H1 a xs/\R (rE K a ⇑xs) H1
def Lh{X:Cx}{E a:Expr}{l:TA}{p j:Pos}(v:Gl X "reversed")(x:X.mg "reversed"= none)(r:PA X [a] l)(z:starEach [a] X.env=[(false,eval a X.env)]:=by rfl) :
  PI X E (.Call (.Name "reversed" p) [a] [] j) (sy X.K l):=by
 intro i s F H R I h;refine Call_ (Zv I v x El (PyProof.Rows.callWith_type1 (cv (r j i s F H _ I h) λJ d z_=>?_) z rfl));obtain⟨K,n,k,B,A⟩:=z_;let⟨b,m,rfl,y,q⟩:=A;let⟨u,rfl,C⟩:=vals1 B;cases C;let⟨g,D,p,G⟩:=k.list y;have w:=⇑D;refine call_reversed_list p.isList ?_;have f:(d.heap.push (revObj b ((g.toArray.size:Int)-1))).IsRevIter d.heap.objs.size b ((⇑m:Int)-1-((0:Nat):Int)):=⟨_,Heap.get?_push_size _ rfl,rfl,by rw[w];simp[revObj]⟩
 refine wpAny_pyIter_revIter (s:={d with heap:=d.heap.push (revObj b ((g.toArray.size:Int)-1))}) f ?_;refine⟨d.heap.objs.size,[d.heap.objs.size],_,_,n,rfl,k.kept (t':=d.toks) λb o e=>vJ _ e,Hr b _ ⇑m,f,λc t=>?_,q⟩;have e:c=d.heap.objs.size:=by simpa using t
 subst e;exact k.gX (vb _) (k.cw.fresh (vb _))
def Iu{K:cg}{a:Addr}{xs:N2}{g:TG}{j:TS}{D:Ends}{b:St}{H:Hp}(c:Nat->St->Hp->Prop)(k:c 0 b H)(o:∀i b H,i<=⇑xs->c i b H->bK K H a xs)
  (r:∀i x b H,i<⇑xs->xs[⇑xs-1-i]?=some x->c i b H->g x b H λf H2=>j {D with nx:=c (i+1),ct:=c (i+1),bk:=D.nx} f H2) (l:∀b H,c ⇑xs b H->D.nx b H) :
  ∃W:Nat->Nat->St->Hp->Prop,(∃m,W 0 m b H)/\∀i m b H,W i m b H->
   ((rE K a ⇑xs).stop i H/\D.nx b H)\/((rE K a ⇑xs).go i H/\∃N:St->Hp->Prop,(∀S' H',N S' H'->∃h,h<m/\W (i+1) h S' H')/\∀x H',(rE K a ⇑xs).lF i H x H'->g x b H' λf H2=>j {D with nx:=N,ct:=N,bk:=D.nx} f H2):=by
 refine⟨λi m b H=>m=⇑xs-i/\i<=⇑xs/\c i b H,⟨⇑xs,by simp,va _,k⟩,?_⟩;rintro i m b H ⟨rfl,n,p⟩;have q:=o i b H n p;by_cases d:i<⇑xs
 .refine .inr ⟨⟨xs,xs[⇑xs-1-i],q,d,vz ⋯⟩,c (i+1),λS' H' s=>⟨⇑xs-(i+1),⋯,rfl,d,s⟩,λx H' y=>?_⟩;let⟨e,y⟩:=y;subst e;exact r i x b _ d (y xs q) p
 .have e:i=⇑xs:=⋯
  subst e;exact .inl ⟨rfl,l b H p⟩
def rd_iRev{K:cg}{b:TA}{c:St}{H:Hp}{R:It->Hp->Prop}(h:b c H λvs H1=>∃a xs,vs=[.ref a]/\bK K H1 a xs/\R (rE K a ⇑xs) H1):sy K b c H R:=h
section
variable{X:Cx}
def tQ(K:cg)(ta:TE):TT:=λσ H Q=>ta σ H λx H'=>∃k,ou K x H' k/\Q k H'
def LH{a:Expr}{c:TE}(d:PE X a c)(e:∀b,isTrue a X.env b=(do let v <-b;standAt a.pos;holding [v] (truthy v))):PT X a (tQ X.K c):=Hm d e
end
def rd_tru{K:cg}{a:TE}{b:St}{H:Hp}{Q:Bool->Hp->Prop}(h:a b H λx H'=>∃k,ou K x H' k/\Q k H'):tQ K a b H Q:=h
section
variable{X:Cx}{e:Expr}{te:TE}
def pI(K:cg)(te:TE)(ts:TO):TE:=λσ H Q=>te σ H λx H1=>ts σ H1 λst H2=>st=some (-1)/\∃a xs,x = .ref a/\bK K H2 a xs/\∀p,H2 p=none->Q (.ref p) (upd H2 p (.lst xs.reverse))
def Hu{xs:N2}{us:L9}(h:Vals xs us):Vals xs.reverse us.reverse:=by
 induction h with
 | nil=>exact .nil
 | cons r _ ih=>rw[reverse_cons,reverse_cons];exact ih.append (.cons r .nil)
def DI{st:Expr}{p:TO}{n j:Pos}(A:PE X e te)(B:PO X (some st) p):PE X (.Subscript e (.Slice none none (some st) n) j) (pI X.K te p):=by
 intro c s f H Q I h;refine Subscript_ (cv (A c s f H _ I h) λv K z_=>?_);obtain⟨x,t,w,J,G⟩:=z_;refine wpAny_Slice ?_;rw[evalPart_none];refine ug ?_;refine ug ?_;refine cv (B c K f t _ w G) λk d z_=>?_;obtain⟨N,u,y,F,i,a,L,z,C,q⟩:=z_
 subst i z;cases J;have g:Inv X c f u {d with heap:=d.heap.push {cls:=.type "slice",data:=.fields #[.none,.none,k]}}:=y.kept (t':=d.toks) λb E q=>vJ _ q
 let⟨D,r,m,M⟩:=g.list C;have l:=⇑r;show wpAny (model X.prog X.w) X.A (subscriptTail e (.Slice none none (some st) n) (.ref a) (.ref d.heap.objs.size)) (EP X c f Q) X.xe {d with heap:=d.heap.push {cls:=.type "slice",data:=.fields #[.none,.none,k]}};refine tail_any (ops:=[.ref a,.ref d.heap.objs.size]) m.isList.typeIs slot_list_getitem.lookup ?_ (by with_unfolding_all rfl);refine wpAny_getItem_list_slice m.isList (Heap.IsSliceOf.new ..) .none .none F nofun ?_ (by simp_all);rw[PySem.W.krv_pick];refine⟨.ref (d.heap.push {cls:=.type "slice",data:=.fields #[.none,.none,k]}).objs.size,_,g.laid (t':=d.toks) (o:=.lst L.reverse) (λb E q=>vJ _ q) (vb _) ?_,rfl,q _ (g.cw.fresh (vb _))⟩;exact⟨by simp_all,_,0,Hu r,Heap.get?_push_size _ rfl⟩
end
def rd_revS{K:cg}{c:TE}{d:TO}{b:St}{H:Hp}{Q:VK}(h:c b H λx H1=>d b H1 λst H2=>st=some (-1)/\∃a xs,x = .ref a/\bK K H2 a xs/\∀p,H2 p=none->Q (.ref p) (upd H2 p (.lst xs.reverse))):pI K c d b H Q:=h
def Dw{K:cg}{i j k:Nat}{a:Addr}{x y z:V}{b:St}{H:Hp}{R:St->Hp->Prop}(e:bV K H a [x,y,z])(h:bX i x b H λS' H'=>bX j y S' H' λS' H'=>bX k z S' H' R):mM K 3 (dB (bX i) (dB (bX j) (dB (bX k) mL))) (.ref a) b H R:=
 ⟨a,[x,y,z],rfl,e,rfl,x,[y,z],rfl,y,[z],rfl,z,[],rfl,rfl,h⟩
def Af{K:cg}{i j k l:Nat}{a:Addr}{x y z w:V}{b:St}{H:Hp}{R:St->Hp->Prop}(e:bV K H a [x,y,z,w])(h:bX i x b H λS' H'=>bX j y S' H' λS' H'=>bX k z S' H' λS' H'=>bX l w S' H' R):mM K 4 (dB (bX i) (dB (bX j) (dB (bX k) (dB (bX l) mL)))) (.ref a) b H R:=
 ⟨a,[x,y,z,w],rfl,e,rfl,x,[y,z,w],rfl,y,[z,w],rfl,z,[w],rfl,w,[],rfl,rfl,h⟩
def pP(lo:Int)(n:Nat):It:=⟨λi q=>i<n,λi H x H'=>H'=H/\x = .int (lo-i),λi q=>n<=i⟩
def Er{P:Program}{w:World}{K:cg}{M:Expr}(it:Addr)(lo:Int)(n:Nat):Turn P w K M (pP lo n) [it] it (λi h=>IsRangeIter h it (lo+(i:Nat)*(-1)) ((n:Int)-(i:Nat)) (-1)) where
 mem:=by simp
 obj:=λi h c b d=>by
  have e:b=it:=by simpa using d
  simp_all
 keep:=λi h g c k=>k it (by simp) _ c
 item:=by
  intro X x A u y i a s C H E I j c z;subst x A u;let⟨l,m,G,p,q,r⟩:=j it (by simp);have W:=Walks.range (prog:=X.prog) (w:=X.w) (I.ok.hd y) it lo (-1) n;refine W.item i s _ _ z c λv g B J f L=>?_
  let⟨t,rfl⟩:=J;have D:Inv X a C H {s with heap:=g,toks:=B}:=I.turned (λb o d e=>L b o #v[d] e) l m p q r;refine⟨_,rfl,sI (s:={s with heap:=g,toks:=B}) (n:="range_iterator") f rfl rfl nofun ⟨.int (lo-i),H,D,⟨t,?_⟩,⟨rfl,rfl⟩,f,λb d=>(j b d).1⟩⟩;rw[show lo+(i:Int)*(-1)=lo-i by lia]
 done:=by
  intro X x A u y i a s C H E I j c z;subst x A u;let⟨l,m,G,p,q,r⟩:=j it (by simp);exact wpAny_pyNext_range_end (I.ok.hd y) c (by have:n<=i:=z;lia) λg F=>⟨rfl,I.turned (t':=s.toks) (λb o d e=>F b o d e) l m p q r⟩
 self:=λZ Z Z Z Z c h=>wpAny_pyIter_rangeiter c h
section
variable{X:Cx}{tg:Expr}
def YX(a b:Int):Builtin.Range.rangeSize a b (-1)=if b<a then a-b else 0:=by
 unfold Builtin.Range.rangeSize
 lia
def Fu(c : -(2^61)<=a)(d:a<2^61)(e : -(2^61)<=b)(h:b<2^61):Builtin.Range.small a b (-1)=true:=by
 have f:∀x:Int,-(2^62)<=x->x<2^62->Builtin.Range.rangeFitsLong x=true:=λx c d=>by
  unfold Builtin.Range.rangeFitsLong;simp;lia
 unfold Builtin.Range.small;rw[YX];have g : -(2^62)<=(if b<a then a-b else 0)/\(if b<a then a-b else 0)<2^62:=by split<;>lia
 rw[f a ⋯ ⋯,f b ⋯ ⋯,f (-1) nofun nofun,f _ g.1 g.2,vc (show¬((-1:Int)>0) by decide),f (b+(-1+1)) ⋯ ⋯];simp
def Fj{a:Ny}{f:St}{H:Hp}{s:Shared}{R:It->Hp->Prop}{E:Nz}{lo hi:Int}{t u v:Tok}{d:Nat}(I:Inv X a f H s)(i : -(2^61)<=lo)(j:lo<2^61)(k : -(2^61)<=hi)(l:hi<2^61)
  (q:R (pP lo (lo-hi).toNat) H):wpAny (model X.prog X.w) X.A (pyIter (.ref s.heap.objs.size)) (uS X a f tg R) E {s with heap:=s.heap.push {cls:=.type "range",data:=.fields #[.int lo t,.int hi u,.int (-1) v]},toks:=d}:=by
 refine wpAny_pyIter_range (IsRange.new ..) (Fu i j k l) ?_;have c:Inv X a f H {s with heap:=s.heap.push {cls:=.type "range",data:=.fields #[.int lo t,.int hi u,.int (-1) v]},toks:=d}:=I.kept λb o e=>vJ _ e
 refine⟨(s.heap.push {cls:=.type "range",data:=.fields #[.int lo t,.int hi u,.int (-1) v]}).objs.size,[(s.heap.push {cls:=.type "range",data:=.fields #[.int lo t,.int hi u,.int (-1) v]}).objs.size],_,_,H,rfl,
  c.kept (t':=d) λb o e=>vJ _ e,Er _ lo (lo-hi).toNat,?_,λb m=>?_,q⟩
 .have g:lo+((0:Nat):Int)*(-1)=lo:=by simp
  have h:(((lo-hi).toNat:Nat):Int)-((0:Nat):Int)=Builtin.Range.rangeSize lo hi (-1):=by rw[YX];split<;>lia
  show IsRangeIter _ _ (lo+((0:Nat):Int)*(-1)) ((((lo-hi).toNat:Nat):Int)-((0:Nat):Int)) (-1);rw[g,h];exact Heap.get?_push_size _ rfl
 .have e:b=(s.heap.push {cls:=.type "range",data:=.fields #[.int lo t,.int hi u,.int (-1) v]}).objs.size:=by simpa using m
  subst e;exact c.gX (vb _) (c.cw.fresh (vb _))
def oY(ta:TA):TI:=λσ H R=>ta σ H λvs H1=>∃i j:Int,vs=[.int i,.int j,.int (-1)]/\(-(2^61)<=i/\i<2^61/\-(2^61)<=j/\j<2^61)/\R (pP i (i-j).toNat) H1
def Fe(m:Gl X "range")(n:X.mg "range"= none)(l:PA X [a,b,c] ta)(o:starEach [a,b,c] X.env=(false,eval a X.env)::starEach [b,c] X.env:=by rfl)(f:(backTo pos (starEach [b,c] X.env)).any (·.1)=false:=by rfl) :
  PI X tg (.Call (.Name "range" p) [a,b,c] [] pos) (oY ta):=by
 intro d s z H R I h;refine Call_ (Zv I m n boot_range (PyProof.Rows.callWith_type1 (cv (l pos d s z H _ I h) λD B z_=>?_) o f));obtain⟨E,A,k,x,g⟩:=z_;let⟨i,j,e,⟨g,u,v,w⟩,q⟩:=g;subst e;cases x with
 | cons r rr=>
  cases rr with
  | cons r' rr=>
   cases rr with
   | cons r'' rr=>
    cases rr;let⟨t,rfl⟩:=r;let⟨C,rfl⟩:=r';let⟨y,rfl⟩:=r'';exact call_range_3 nofun (Fj k g u v w q) (.inl (PyProof.noPylong_small ⋯))
end
def rd_rngD{a:St}{H:Hp}{R:It->Hp->Prop}(h:ta a H λvs H1=>∃i j:Int,vs=[.int i,.int j,.int (-1)]/\(-(2^61)<=i/\i<2^61/\-(2^61)<=j/\j<2^61)/\R (pP i (i-j).toNat) H1):oY ta a H R:=h
def Gi{lo:Int}{n:Nat}{g:TG}{h:TS}{D:Ends}{a:St}{H:Hp}(b:Nat->St->Hp->Prop)(j:b 0 a H)(l:∀i a H,i<n->b i a H->g (.int (lo-i)) a H λd H2=>h {D with nx:=b (i+1),ct:=b (i+1),bk:=D.nx} d H2)(k:∀a H,b n a H->D.nx a H) :
  ∃W:Nat->Nat->St->Hp->Prop,(∃m,W 0 m a H)/\∀i m a H,W i m a H->
   ((pP lo n).stop i H/\D.nx a H)\/((pP lo n).go i H/\∃N:St->Hp->Prop,(∀S' H',N S' H'->∃f,f<m/\W (i+1) f S' H')/\∀x H',(pP lo n).lF i H x H'->g x a H' λd H2=>h {D with nx:=N,ct:=N,bk:=D.nx} d H2):=by
 refine⟨λi m a H=>m=n-i/\i<=n/\b i a H,⟨n,by simp,va _,j⟩,?_⟩;rintro i m a H ⟨rfl,q,p⟩;by_cases c:i<n
 .refine .inr ⟨c,b (i+1),λS' H' o=>⟨n-(i+1),⋯,rfl,c,o⟩,λx H' y=>?_⟩;let⟨e,y⟩:=y;subst e y;exact l i a _ c p
 .have e:i=n:=⋯
  subst e;exact .inl ⟨vb _,k a H p⟩
section
variable{X:Cx}
def E4:rX X "list.index" (λx vs H Q=>∃(p:Addr) (xs:N2) (y z:V) (j:Nat),x = .ref p/\vs=[y]/\bK X.K H p xs/\dU y=true/\xs.all dU=true/\xs[j]?=some z/\me z y=true/\(∀(m:Nat) (c:V),m<j->xs[m]?=some c->me c y=false)/\Q (.int j) H):=by
 intro E s σ H x vs v us Q I Z Y h;let⟨p,xs,y,z,j,rfl,rfl,U,N,d,f,M,k,q⟩:=h;cases Z;let⟨u,rfl,W⟩:=vals1 Y;let⟨a,r,G,hz⟩:=I.list U;have lx:=⇑r;have jl:=(vx.mp f).1;let⟨w',S,t⟩:=r.get f;have O:dU z=true:=all_eq_true.mp d z (vm f);let⟨⟨K,L,A,sl⟩,R,B,n,C⟩:=id G.isList;simp only at B C;subst B C;have g:j<a.toArray.size:=by rw[size_toArray];lia
 have J:sizeLine<2^62:=by decide
 have o:(j:Int)<2^63-1:=⋯
 refine call_meets F.slot_list_index G.isList.typeIs F.entry_list_index (F.args_list_index_2 _ _) (SeqAt.list_indexAt p a.toArray n L sl u (lJ y) j g o ?_ ?_) ⟨R,λy' l=>ZH W N r d y' #v[l],⟨.int j,H,I.tok _,⟨_,rfl⟩,q⟩⟩
 .have e:a.toArray[j]=w':=by
   have:=vx.mp S;let⟨h,e⟩:=this;simpa using e
  rw[e,Xj t O];exact M
 .intro m D i;have P:m<⇑a:=by rw[size_toArray]at D;exact D
  obtain⟨c,b⟩:∃c,xs[m]?=some c:=⟨_,vz ⋯⟩
  let⟨w2,T,w⟩:=r.get b;have e:a.toArray[m]=w2:=by
   simp_all
  rw[e,Xj w (all_eq_true.mp d c (vm b))];exact k m c i b
end
structure r6(prog:Program)(w:World)(it:Addr)(fp:L7)(P P':Heap->Prop)(x:Value):Prop where
 run:∀(A:Around) (s:Shared) (Q:Nz) (E:Nz),P s.heap->(∀h',P' h'->Heap.SameBut it s.heap h'->Q x {s with heap:=h'})->wpAny (model prog w) A (Builtin.SmallTypes.nextOf (.ref it)) Q E s
 kp:∀h h',P h->(∀b∈fp,∀o,h.get? b=some o->h'.get? b=some o)->P h'
 uC:∀h h',P' h->(∀b∈fp,∀o,h.get? b=some o->h'.get? b=some o)->P' h'
structure ZA(z TI TO i j:Addr)(f g:L7):Prop where
 a1:TI≠z
 a2:TO≠z
 a3:i≠z
 a4:j≠z
 a5:TI≠TO
 a6:TI≠i
 a7:TI≠j
 a8:TO≠i
 a9:TO≠j
 b1:z∉f
 b2:TO∉f
 b3:j∉f
 c1:z∉g
 c2:TO∉g
 c3:i∉g
section
variable{prog:Program}{w:World}{A:Around}{E:Nz}{s:Shared}
def EA{it t:Addr}{i:Nat}{xs:Array Value}{x:Value}{Q:Nz}(a:s.heap.IsTupleIter it t i)(h:s.heap.IsTuple t xs)(j:xs[i]?=some x)
  (f:∀h',h'.IsTupleIter it t (i+1)->Heap.SameBut it s.heap h'->Q x {s with heap:=h'}):wpAny (model prog w) A (Builtin.SmallTypes.nextOf (.ref it)) Q E s:=by
 let⟨o,c,g,b⟩:=id a;let⟨l,e,q,k,d⟩:=h;unfold Builtin.SmallTypes.nextOf;refine uh (wpAny_callSpecial?_slot (name:=Str.ofString "__next__") a.typeIs F.slot_tuple_iterator_next (wpAny_call_entry F.slot_tuple_iterator_next a.typeIs F.entry_tuple_iterator_next ?_ (F.args_tuple_iterator_next_1 _)));show wpAny _ _ (field (.ref it) 0 >>= _) _ _ s;refine uh (wpAny_field c b (x:=.ref t) rfl ?_);show wpAny _ _ (if(Value.ref t==Value.none)=true then _ else _) _ _ s;rw[vc (show¬((Value.ref t==Value.none)=true)from vF)];show wpAny _ _ (field (.ref it) 1 >>= _) _ _ s;refine uh (wpAny_field c b (x:=.int i 0) rfl ?_);show wpAny _ _ (seqItems? (.ref t) >>= _) _ _ s;refine uh (wpAny_seqItems e d ?_);simp only[Int.toNat_natCast,j];refine uh (wpAny_setField c b (by simp) (ug ⟨x,rfl,ug (f _ ?_ (Heap.SameBut.update ..))⟩));exact⟨_,Heap.get?_update_self _ c (Obj.isFreed_of_fields (Obj.data_mapFields b _)),(Obj.cls_mapFields ..).trans g,by rw[Obj.data_mapFields b];simp[rawInt]⟩
def E7{it t:Addr}{i:Nat}{xs:Array Value}{Q:Nz}(h:A.handled=none)(b:s.heap.IsTupleIter it t i)(k:s.heap.IsTuple t xs)(l:xs[i]?=none)
  (j:∀h' e,Heap.ExtBut it s.heap h'->(∃o,h'.get? e=some o/\o.cls = .type "StopIteration")->E (.ref e) {s with heap:=h'}):wpAny (model prog w) A (Builtin.SmallTypes.nextOf (.ref it)) Q E s:=by
 let⟨o,f,n,c⟩:=id b;let⟨q,g,Z,p,d⟩:=k;unfold Builtin.SmallTypes.nextOf;refine uh (wpAny_callSpecial?_slot (name:=Str.ofString "__next__") b.typeIs F.slot_tuple_iterator_next (wpAny_call_entry F.slot_tuple_iterator_next b.typeIs F.entry_tuple_iterator_next ?_ (F.args_tuple_iterator_next_1 _)));show wpAny _ _ (field (.ref it) 0 >>= _) _ _ s;refine uh (wpAny_field f c (x:=.ref t) rfl ?_);show wpAny _ _ (if(Value.ref t==Value.none)=true then _ else _) _ _ s;rw[vc (show¬((Value.ref t==Value.none)=true)from vF)];show wpAny _ _ (field (.ref it) 1 >>= _) _ _ s;refine uh (wpAny_field f c (x:=.int i 0) rfl ?_);show wpAny _ _ (seqItems? (.ref t) >>= _) _ _ s;refine uh (wpAny_seqItems g d ?_);simp only[Int.toNat_natCast,l];refine uh (wpAny_rule (uh (wpAny_setField f c (by simp) ?_)));show wpAny _ _ (newExc (.type "StopIteration") [] >>= _) _ _ _;refine uh ?_;simp only[newExc,newTuple];refine uh (wpAny_newObj_type ?_ (by size_fits));refine uh (m:=firstArgMember _ _) (wpAny_of_eq (a:=Value.none) (by first | rfl | (simp only[firstArgMember];rfl)) ?_);refine wpAny_newObj_type ?_ (by size_fits);simp only[raiseNew];refine uh (wpAny_handled ?_)
 first | rw[show A.in1.handled=none from h] | rw[h]
 refine uh (ug (wpAny_throw ?_));exact j _ _ (((Heap.SameBut.update ..).extBut.push _).push _) ⟨_,Heap.get?_push_size _ rfl,rfl⟩
def HE{it t:Addr}{i:Nat}{xs:Array Value}{x:Value}(l:t≠it)(j:xs[i]?=some x):r6 prog w it [it,t] (λh=>h.IsTupleIter it t i/\h.IsTuple t xs) (λh=>h.IsTupleIter it t (i+1)/\h.IsTuple t xs) x where
 run:=λA s Q E p q=>EA p.1 p.2 j λd a g=>q d ⟨a,p.2.extBut g.extBut l⟩ g
 kp:=λh d ⟨⟨o,e,r⟩,b,c,f⟩ k=>⟨⟨o,k it (by simp) o e,r⟩,b,k t (by simp) b c,f⟩
 uC:=λh d ⟨⟨o,e,r⟩,b,c,f⟩ k=>⟨⟨o,k it (by simp) o e,r⟩,b,k t (by simp) b c,f⟩
def HD{it t:Addr}{i:Nat}{xs:Array Value}{x:Value}(l:t≠it)(j:xs[i]?=some x):r6 prog w it [it,t] (λh=>h.IsListIter it t i/\h.IsList t xs) (λh=>h.IsListIter it t (i+1)/\h.IsList t xs) x where
 run:=λA s Q E p q=>wpAny_nextOf_list_item p.1 p.2 j λd a g=>q d ⟨a,p.2.extBut g.extBut l⟩ g
 kp:=λh d ⟨⟨o,e,r⟩,b,c,f⟩ k=>⟨⟨o,k it (by simp) o e,r⟩,b,k t (by simp) b c,f⟩
 uC:=λh d ⟨⟨o,e,r⟩,b,c,f⟩ k=>⟨⟨o,k it (by simp) o e,r⟩,b,k t (by simp) b c,f⟩
def Gg{z TI TO i j:Addr}{f g:L7}{P I R J:Heap->Prop}{x y a b:Value}{Q:Nz}(G:r6 prog w i f P I x)(H:r6 prog w j g R J y)(D:ZA z TI TO i j f g)
  (hz:IsZip s.heap z TI TO .none) (L:IsPair s.heap TI (.ref i) (.ref j)) (M:IsPair s.heap TO a b) (h1:P s.heap) (h2:R s.heap)
  (hQ:∀h',IsZip h' z TI TO (rawInt s.heap.objs.size)->IsPair h' TO x y->I h'->J h'->IsPair h' s.heap.objs.size x y->(∀c o,c≠z->c≠TO->c≠i->c≠j->s.heap.get? c=some o->h'.get? c=some o)->Q (.ref s.heap.objs.size) {s with heap:=h'}) :
  wpAny (model prog w) A (Builtin.«zip.__next__» ⟨[.ref z],[]⟩) (λK s'=>∃v,K = .done (.ret v)/\Q v s') E s:=by
 show wpAny _ _ (field (.ref z) 2 >>= _) _ _ _;refine uh (wpAny_field hz rfl (x:=.bool false) rfl ?_);show wpAny _ _ (field (.ref z) 3 >>= _) _ _ _;refine uh (wpAny_field hz rfl (x:=.ref TI) rfl ?_);refine uh (wpAny_seqItems L rfl ?_);show wpAny _ _ (Builtin.SmallTypes.ownedTupleIsFree (.ref z) >>= _) _ _ _;refine uh ?_;unfold Builtin.SmallTypes.ownedTupleIsFree;refine uh (wpAny_field hz rfl (x:=.none) rfl (ug ?_));simp only[if_true];refine uh (wpAny_rule ?_);refine uh (wpAny_field hz rfl (x:=.ref TO) rfl ?_);refine uh (wpAny_setField_rec hz (by simp) λN U X=>?_)
 replace U:IsZip N z TI TO .ellipsis:=U
 refine uh ?_;simp only[List.zipIdx_cons,List.zipIdx_nil,forIn_cons,forIn_nil];have p:∀c o,c≠z->s.heap.get? c=some o->N.get? c=some o:=λc o n=>X.extBut c o n
 refine uh (uh (wpAny_onRaise ?_));show wpAny _ _ (Builtin.SmallTypes.nextOf (.ref i) >>= _) _ _ _;refine uh (G.run _ _ _ _ (G.kp _ _ h1 λb d o q=>p b o (λe=>D.b1 (e▸d)) q) λO p2 Y=>ug ?_);have r:∀c o,c≠i->N.get? c=some o->O.get? c=some o:=λc o n=>Y.extBut c o n
 have t2:IsPair O TO a b:=r _ _ D.a8 (p _ _ D.a2 M);refine uh (wpAny_seqItems t2 rfl ?_);refine uh (wpAny_updateSeq_pair t2 λl T Z=>?_)
 replace T:IsPair l TO x b:=T
 have t:∀c o,c≠TO->O.get? c=some o->l.get? c=some o:=λc o n=>Z.extBut c o n
 refine uh (wpAny_letGo (ug ?_));refine uh (uh (wpAny_onRaise ?_));show wpAny _ _ (Builtin.SmallTypes.nextOf (.ref j) >>= _) _ _ _;have r3:R l:=H.kp _ _ h2 λb d o q=>t b o (λe=>D.c2 (e▸d)) (r b o (λe=>D.c3 (e▸d)) (p b o (λe=>D.c1 (e▸d)) q))
 refine uh (H.run _ _ _ _ r3 λS p4 e4=>ug ?_);have u:∀c o,c≠j->l.get? c=some o->S.get? c=some o:=λc o n=>e4.extBut c o n
 have t4:IsPair S TO x b:=u _ _ D.a9 T;refine uh (wpAny_seqItems t4 rfl ?_);refine uh (wpAny_updateSeq_pair t4 λh m e5=>?_)
 replace m:IsPair h TO x y:=m
 have B:∀c o,c≠TO->S.get? c=some o->h.get? c=some o:=λc o n=>e5.extBut c o n
 refine uh (wpAny_letGo (ug (ug ?_)));refine uh (wpAny_seqItems m rfl ?_);refine uh (wpAny_newTuple (hsz:=by show 2<=sizeLine;decide) ?_);have sz:h.objs.size=s.heap.objs.size:=by rw[e5.1,e4.1,Z.1,Y.1,X.1]
 have z5:IsZip h z TI TO .ellipsis:=B _ _ D.a2.symm (u _ _ D.a4.symm (t _ _ D.a2.symm (r _ _ D.a3.symm U)));show wpAny _ _ (Builtin.SmallTypes.ownedTupleHandOut (.ref z) (.ref h.objs.size) >>= _) _ _ _;refine uh ?_;unfold Builtin.SmallTypes.ownedTupleHandOut;have z6:IsZip (h.push {cls:=.type "tuple",data:=.seq #[x,y]}) z TI TO .ellipsis:=vJ _ z5;refine uh (wpAny_setField_rec z6 (by simp) λk7 W e7=>?_)
 replace W:IsZip k7 z TI TO (rawInt h.objs.size):=W
 refine wpAny_setField_rec W (by simp) λk F e8=>?_
 replace F:IsZip k z TI TO (rawInt h.objs.size):=F
 have C:∀c o,c≠z->h.get? c=some o->k.get? c=some o:=λc o n q=>e8.extBut c o n (e7.extBut c o n (vJ _ q))
 have nz:h.objs.size≠z:=vO (vI z5);have t8:IsPair k h.objs.size x y:=e8.extBut _ _ nz (e7.extBut _ _ nz (Heap.get?_push_size _ rfl));have p8:I k:=G.uC _ _ p2 λb d o q=>C b o (λe=>D.b1 (e▸d)) (B b o (λe=>D.b2 (e▸d)) (u b o (λe=>D.b3 (e▸d)) (t b o (λe=>D.b2 (e▸d)) q)))
 have r8:J k:=H.uC _ _ p4 λb d o q=>C b o (λe=>D.c1 (e▸d)) (B b o (λe=>D.c2 (e▸d)) q)
 refine ug ⟨_,rfl,?_⟩;show Q (.ref h.objs.size) _;rw[sz]at F t8|-;exact hQ k F (C _ _ D.a2 m) p8 r8 t8 λc o n1 n2 n3 n4 q=>C c o n1 (B c o n2 (u c o n4 (t c o n2 (r c o n3 (p c o n1 q)))))
def Hw{z TI TO i j:Addr}{f g:L7}{a b:Value}{Q:Fin->Shared->Prop}(D:ZA z TI TO i j f g)(P:Heap->Prop)(L:∀h h',P h->(∀b∈f,∀o,h.get? b=some o->h'.get? b=some o)->P h')
  (d:∀(s:Shared) (Q:Nz) (E:Nz),P s.heap->(∀h' e,Heap.ExtBut i s.heap h'->(∃o,h'.get? e=some o/\o.cls = .type "StopIteration")->E (.ref e) {s with heap:=h'})->wpAny (model prog w) A (Builtin.SmallTypes.nextOf (.ref i)) Q E s)
  (hz:IsZip s.heap z TI TO .none) (k:IsPair s.heap TI (.ref i) (.ref j)) (F:IsPair s.heap TO a b) (B:P s.heap)
  (C:∀h' e,(∀c o,c≠z->c≠TO->c≠i->c≠j->s.heap.get? c=some o->h'.get? c=some o)->(∃o,h'.get? e=some o/\o.cls = .type "StopIteration")->E (.ref e) {s with heap:=h'}) :
  wpAny (model prog w) A (Builtin.«zip.__next__» ⟨[.ref z],[]⟩) Q E s:=by
 show wpAny _ _ (field (.ref z) 2 >>= _) _ _ _;refine uh (wpAny_field hz rfl (x:=.bool false) rfl ?_);show wpAny _ _ (field (.ref z) 3 >>= _) _ _ _;refine uh (wpAny_field hz rfl (x:=.ref TI) rfl ?_);refine uh (wpAny_seqItems k rfl ?_);show wpAny _ _ (Builtin.SmallTypes.ownedTupleIsFree (.ref z) >>= _) _ _ _;refine uh ?_;unfold Builtin.SmallTypes.ownedTupleIsFree;refine uh (wpAny_field hz rfl (x:=.none) rfl (ug ?_));simp only[if_true];refine uh (wpAny_rule ?_);refine uh (wpAny_field hz rfl (x:=.ref TO) rfl ?_);refine uh (wpAny_setField_rec hz (by simp) λI n r=>?_)
 replace n:IsZip I z TI TO .ellipsis:=n
 refine uh ?_;simp only[List.zipIdx_cons,List.zipIdx_nil,forIn_cons,forIn_nil];refine uh (uh (wpAny_onRaise ?_));show wpAny _ _ (Builtin.SmallTypes.nextOf (.ref i) >>= _) _ _ _;refine uh (d _ _ _ (L _ _ B λb G o q=>r.extBut b o (λe=>D.b1 (e▸G)) q) λJ e u H=>?_);let⟨M,m,l⟩:=H;have N:IsZip J z TI TO .ellipsis:=u _ _ D.a3.symm n;have y:e≠z:=λq=>⋯
 exact wpAny_setField_rec N (by simp) λK Z t=>C K e (λc o p Z v Z q=>t.extBut _ _ p (u _ _ v (r.extBut _ _ p q))) ⟨M,t.extBut _ _ y m,l⟩
noncomputable abbrev uI(h:Heap)(t:Addr):Heap:=h.push {cls:=.type "tuple_iterator",data:=.fields #[.ref t,.int 0 0]}
end
section
variable{σ:St}{H:Hp}{D:Ends}{Q:VK}{ta tb te:TE}
def rd_seq(h:t {D with nx:=u D} σ H):tO t u D σ H:=h
def rd_asg(h:te σ H λx H1=>g x σ H1 D.nx):nM te g D σ H:=h
def rd_v0{r:St}(h:Q v H):dY 0 (some v::r) H Q:=⟨v,rfl,h⟩
def rd_n0{r:St}{R:St->Hp->Prop}(h:R (some v::r) H):bX 0 v (a0::r) H R:=h
def rd_v1{r:St}(h:Q v H):dY 1 (a0::some v::r) H Q:=⟨v,rfl,h⟩
def rd_n1{r:St}{R:St->Hp->Prop}(h:R (a0::some v::r) H):bX 1 v (a0::a1::r) H R:=h
def rd_v2{r:St}(h:Q v H):dY 2 (a0::a1::some v::r) H Q:=⟨v,rfl,h⟩
def rd_n2{r:St}{R:St->Hp->Prop}(h:R (a0::a1::some v::r) H):bX 2 v (a0::a1::a2::r) H R:=h
def rd_v3{r:St}(h:Q v H):dY 3 (a0::a1::a2::some v::r) H Q:=⟨v,rfl,h⟩
def rd_n3{r:St}{R:St->Hp->Prop}(h:R (a0::a1::a2::some v::r) H):bX 3 v (a0::a1::a2::a3::r) H R:=h
def rd_v4{r:St}(h:Q v H):dY 4 (a0::a1::a2::a3::some v::r) H Q:=⟨v,rfl,h⟩
def rd_n4{r:St}{R:St->Hp->Prop}(h:R (a0::a1::a2::a3::some v::r) H):bX 4 v (a0::a1::a2::a3::a4::r) H R:=h
def rd_v5{r:St}(h:Q v H):dY 5 (a0::a1::a2::a3::a4::some v::r) H Q:=⟨v,rfl,h⟩
def rd_n5{r:St}{R:St->Hp->Prop}(h:R (a0::a1::a2::a3::a4::some v::r) H):bX 5 v (a0::a1::a2::a3::a4::a5::r) H R:=h
def rd_v6{r:St}(h:Q v H):dY 6 (a0::a1::a2::a3::a4::a5::some v::r) H Q:=⟨v,rfl,h⟩
def rd_n6{r:St}{R:St->Hp->Prop}(h:R (a0::a1::a2::a3::a4::a5::some v::r) H):bX 6 v (a0::a1::a2::a3::a4::a5::a6::r) H R:=h
def rd_v7{r:St}(h:Q v H):dY 7 (a0::a1::a2::a3::a4::a5::a6::some v::r) H Q:=⟨v,rfl,h⟩
def rd_n7{r:St}{R:St->Hp->Prop}(h:R (a0::a1::a2::a3::a4::a5::a6::some v::r) H):bX 7 v (a0::a1::a2::a3::a4::a5::a6::a7::r) H R:=h
def rd_v8{r:St}(h:Q v H):dY 8 (a0::a1::a2::a3::a4::a5::a6::a7::some v::r) H Q:=⟨v,rfl,h⟩
def rd_n8{r:St}{R:St->Hp->Prop}(h:R (a0::a1::a2::a3::a4::a5::a6::a7::some v::r) H):bX 8 v (a0::a1::a2::a3::a4::a5::a6::a7::a8::r) H R:=h
def rd_v9{r:St}(h:Q v H):dY 9 (a0::a1::a2::a3::a4::a5::a6::a7::a8::some v::r) H Q:=⟨v,rfl,h⟩
def rd_n9{r:St}{R:St->Hp->Prop}(h:R (a0::a1::a2::a3::a4::a5::a6::a7::a8::some v::r) H):bX 9 v (a0::a1::a2::a3::a4::a5::a6::a7::a8::a9::r) H R:=h
def rd_v10{r:St}(h:Q v H):dY 10 (a0::a1::a2::a3::a4::a5::a6::a7::a8::a9::some v::r) H Q:=⟨v,rfl,h⟩
def rd_n10{r:St}{R:St->Hp->Prop}(h:R (a0::a1::a2::a3::a4::a5::a6::a7::a8::a9::some v::r) H):bX 10 v (a0::a1::a2::a3::a4::a5::a6::a7::a8::a9::a10::r) H R:=h
def rd_v11{r:St}(h:Q v H):dY 11 (a0::a1::a2::a3::a4::a5::a6::a7::a8::a9::a10::some v::r) H Q:=⟨v,rfl,h⟩
def rd_n11{r:St}{R:St->Hp->Prop}(h:R (a0::a1::a2::a3::a4::a5::a6::a7::a8::a9::a10::some v::r) H):bX 11 v (a0::a1::a2::a3::a4::a5::a6::a7::a8::a9::a10::a11::r) H R:=h
def rd_v12{r:St}(h:Q v H):dY 12 (a0::a1::a2::a3::a4::a5::a6::a7::a8::a9::a10::a11::some v::r) H Q:=⟨v,rfl,h⟩
def rd_n12{r:St}{R:St->Hp->Prop}(h:R (a0::a1::a2::a3::a4::a5::a6::a7::a8::a9::a10::a11::some v::r) H):bX 12 v (a0::a1::a2::a3::a4::a5::a6::a7::a8::a9::a10::a11::a12::r) H R:=h
def rd_v13{r:St}(h:Q v H):dY 13 (a0::a1::a2::a3::a4::a5::a6::a7::a8::a9::a10::a11::a12::some v::r) H Q:=⟨v,rfl,h⟩
def rd_n13{r:St}{R:St->Hp->Prop}(h:R (a0::a1::a2::a3::a4::a5::a6::a7::a8::a9::a10::a11::a12::some v::r) H):bX 13 v (a0::a1::a2::a3::a4::a5::a6::a7::a8::a9::a10::a11::a12::a13::r) H R:=h
def rd_v14{r:St}(h:Q v H):dY 14 (a0::a1::a2::a3::a4::a5::a6::a7::a8::a9::a10::a11::a12::a13::some v::r) H Q:=⟨v,rfl,h⟩
def rd_n14{r:St}{R:St->Hp->Prop}(h:R (a0::a1::a2::a3::a4::a5::a6::a7::a8::a9::a10::a11::a12::a13::some v::r) H):bX 14 v (a0::a1::a2::a3::a4::a5::a6::a7::a8::a9::a10::a11::a12::a13::a14::r) H R:=h
def rd_v15{r:St}(h:Q v H):dY 15 (a0::a1::a2::a3::a4::a5::a6::a7::a8::a9::a10::a11::a12::a13::a14::some v::r) H Q:=⟨v,rfl,h⟩
def rd_n15{r:St}{R:St->Hp->Prop}(h:R (a0::a1::a2::a3::a4::a5::a6::a7::a8::a9::a10::a11::a12::a13::a14::some v::r) H):bX 15 v (a0::a1::a2::a3::a4::a5::a6::a7::a8::a9::a10::a11::a12::a13::a14::a15::r) H R:=h
def rd_v16{r:St}(h:Q v H):dY 16 (a0::a1::a2::a3::a4::a5::a6::a7::a8::a9::a10::a11::a12::a13::a14::a15::some v::r) H Q:=⟨v,rfl,h⟩
def rd_n16{r:St}{R:St->Hp->Prop}(h:R (a0::a1::a2::a3::a4::a5::a6::a7::a8::a9::a10::a11::a12::a13::a14::a15::some v::r) H):bX 16 v (a0::a1::a2::a3::a4::a5::a6::a7::a8::a9::a10::a11::a12::a13::a14::a15::a16::r) H R:=h
def rd_const(h:Q v H):tC v σ H Q:=h
def rd_op(h:ta σ H λx H1=>tb σ H1 λy H2=>r x y H2 Q):tM r ta tb σ H Q:=h
def rd_un{r:V->Hp->VK->Prop}(h:ta σ H λx H1=>r x H1 Q):D4 r ta σ H Q:=h
def rd_i0{g:Int->Int->V}(h:Q (g i j) H):oG g (.int i) (.int j) H Q:=⟨i,j,rfl,rfl,h⟩
def Mg{C:Int->Int->Prop}{g:Int->Int->V}(c:C i j)(h:Q (g i j) H):rI C g (.int i) (.int j) H Q:=⟨i,j,rfl,rfl,c,h⟩
def rd_u{g:Int->V}(h:Q (g i) H):rU g (.int i) H Q:=⟨i,rfl,h⟩
def rd_eqI(h:Q (.bl (decide (i=j))) H):AO (.int i) (.int j) H Q:=by
 refine⟨rfl,?_⟩;rw[show decide (V.int i=V.int j)=decide (i=j) by simp];exact h
def rd_neI(h:Q (.bl (!decide (i=j))) H):AS (.int i) (.int j) H Q:=by
 refine⟨rfl,?_⟩;rw[show decide (V.int i=V.int j)=decide (i=j) by simp];exact h
def rd_eqS(h:Q (.bl (decide (i=j))) H):AO (.str i) (.str j) H Q:=by
 refine⟨rfl,?_⟩;rw[show decide (V.str i=V.str j)=decide (i=j) by simp];exact h
def rd_neS{i j:Str}(h:Q (.bl (!decide (i=j))) H):AS (.str i) (.str j) H Q:=by
 refine⟨rfl,?_⟩;rw[show decide (V.str i=V.str j)=decide (i=j) by simp];exact h
def rd_if(h:c σ H λb H1=>if b=true then t D σ H1 else u D σ H1):ry c t u D σ H:=h
def rd_test{R:Bool->Hp->Prop}(h:te σ H λx H'=>∃k,x = .bl k/\R k H'):nU te σ H R:=h
def rd_tB{R:Bool->Hp->Prop}(h:te σ H λx H'=>∃k,x = .bl k/\R k H'):tB te σ H R:=h
def rd_blP{R:Bool->Prop}(h:R k):∃a,V.bl k = .bl a/\R a:=⟨k,rfl,h⟩
def rd_not{R:Bool->Hp->Prop}(h:t σ H λc H1=>R (!c) H1):tL t σ H R:=h
def rd_and{R:Bool->Hp->Prop}(h:t σ H λc H1=>if c=true then u σ H1 R else R false H1):tE t u σ H R:=h
def rd_or{R:Bool->Hp->Prop}(h:t σ H λc H1=>if c=true then R true H1 else u σ H1 R):D2 t u σ H R:=h
def rd_andV(h:ta σ H λx H1=>∃c,x = .bl c/\if c=true then tb σ H1 Q else Q (.bl false) H1):pq ta tb σ H Q:=h
def rd_notV(h:ta σ H λx H1=>∃c,x = .bl c/\Q (.bl (!c)) H1):pG ta σ H Q:=h
def rd_ifE(h:t σ H λc H1=>if c=true then ta σ H1 Q else tb σ H1 Q):D0 t ta tb σ H Q:=h
def rd_ret(h:te σ H D.rt):tN te D σ H:=h
def rd_next(h:D.nx σ H):pF D σ H:=h
def rd_drop(h:te σ H λq H1=>D.nx σ H1):pC te D σ H:=h
def rd_cb{r:N2->Hp->VK->Prop}(h:t σ H λvs H1=>r vs H1 Q):AX r t σ H Q:=h
def rd_call{sp:Sp}(h:t σ H λvs H1=>sp (vs++dvs) H1 Q E):nN sp dvs E t σ H Q:=h
def rd_fld{K:cg}{f:Str}(h:ta σ H λx H1=>∃a C dx fs v,x = .ref a/\H1 a=some (.ins C dx fs)/\l4 K C/\cN K C f/\fs.lookup f=some v/\Q v H1):tI K ta f σ H Q:=h
def rd_sfld{K:cg}{f:Str}(h:tb σ H λy H1=>ta σ H1 λx H2=>∃a C dx fs,x = .ref a/\H2 a=some (.ins C dx fs)/\l4 K C/\cN K C f/\⇑fs<1000/\D.nx σ (upd H2 a (.ins C dx (cb f y fs)))):sZ K ta tb f D σ H:=h
def rd_meth{sp:Sp}(h:ta σ H λx H1=>∃a dx fs,x = .ref a/\H1 a=some (.ins C dx fs)/\fs.lookup m=none/\t σ H1 λvs H2=>sp (x::(vs++dvs)) H2 Q E):nT C m sp dvs E ta t σ H Q:=h
def rd_make{sp:Sp}(h:t σ H λvs H1=>∀x dx,H1 x=none->H1 dx=none->dx≠x->sp (.ref x::(vs++dvs)) (upd (upd H1 dx (.own x)) x (.ins C dx [])) (λv H2=>v = .cE/\Q (.ref x) H2) E):pE C sp dvs E t σ H Q:=h
def rd_dIn(h:ta σ H λy H1=>tb σ H1 λx H2=>∃a o,x = .ref a/\cM H2 a y o/\Q (.bl o.isSome) H2):tH ta tb σ H Q:=h
def rd_nil{R:N2->Hp->Prop}(h:R [] H):rA σ H R:=h
def rd_cons{R:N2->Hp->Prop}(h:ta σ H λx H1=>tr σ H1 λxs H2=>R (x::xs) H2):pz ta tr σ H R:=h
def rd_lst(h:t σ H λxs H1=>⇑xs<=sizeLine/\∀p,H1 p=none->Q (.ref p) (upd H1 p (.lst xs))):tK t σ H Q:=h
def rd_tup(h:t σ H λxs H1=>⇑xs<=sizeLine/\∀p,H1 p=none->Q (.ref p) (upd H1 p (.tup xs))):tR t σ H Q:=h
def rd_chain(h:ta σ H λx H1=>tb σ H1 λy H2=>r x y H2 λz a=>∃k,z = .bl k/\(if k=true then tc σ a λc b=>r' y c b Q else Q (.bl false) a)):nO r r' ta tb tc σ H Q:=h
def rd_bm{K:cg}{T:String}{r:V->N2->Hp->VK->Prop}{t:TA}(h:te σ H λx H1=>tU K T x H1/\t σ H1 λxs H2=>r x xs H2 Q):DZ K T r te t σ H Q:=h
def rd_sl{r:V->Option Int->Option Int->Hp->VK->Prop}(h:te σ H λx H1=>tl σ H1 λl H2=>th σ H2 λu a=>r x l u a Q):D3 r te tl th σ H Q:=h
def rd_nopart{R:Option Int->Hp->Prop}(h:R none H):mx σ H R:=h
def rd_part{R:Option Int->Hp->Prop}(h:te σ H λx H1=>∃i,x = .int i/\R (some i) H1):pH te σ H R:=h
def rd_int{R:Int->Prop}(h:R i):∃a,V.int i = .int a/\R a:=⟨i,rfl,h⟩
def bT{p A B:Prop}[Decidable p](a:p->A)(b:¬p->B):if decide p=true then A else B:=by
 lia
def dI{p A B:Prop}[Decidable p](a:¬p->A)(b:p->B):if(!decide p)=true then A else B:=by
 lia
def rd_rng1{a:TA}{R:It->Hp->Prop}(h:a σ H λvs H1=>∃j:Int,vs=[.int j]/\-(2^62)<=j/\j<2^62/\R (nV 0 j.toNat) H1):oX a σ H R:=h
def rd_iList{K:cg}{R:It->Hp->Prop}(h:te σ H λx H1=>∃a,x = .ref a/\(∃xs,bK K H1 a xs)/\R (oh K a) H1):oW K te σ H R:=h
def rd_p18(h:Q (.int (10^18)) H):rI my (λi j=>.int (i^j.toNat)) (.int 10) (.int 18) H Q:=⟨10,18,rfl,rfl,⟨by decide,by decide,by decide⟩,h⟩
def rd_p30(h:Q (.int (10^30)) H):rI my (λi j=>.int (i^j.toNat)) (.int 10) (.int 30) H Q:=⟨10,30,rfl,rfl,⟨by decide,by decide,by decide⟩,h⟩
def rd_p60(h:Q (.int (10^60)) H):rI my (λi j=>.int (i^j.toNat)) (.int 10) (.int 60) H Q:=⟨10,60,rfl,rfl,⟨by decide,by decide,by decide⟩,h⟩
def rd_aug(h:dY i σ H λx a=>te σ a λy H1=>ti x y H1 λz H2=>bX i z σ H2 D.nx):tF i te ti D σ H:=h
def rd_ipI{f:Int->Int->Int}(h:Q (.int (f i j)) H):A6 f (.int i) (.int j) H Q:=⟨i,j,rfl,rfl,h⟩
def rd_for{c:TS} (h:wi σ H λJ H1=>∃W:Nat->Nat->St->Hp->Prop,(∃m,W 0 m σ H1)/\∀i m σ H,W i m σ H->
 (J.stop i H/\D.nx σ H)\/(J.go i H/\∃N:St->Hp->Prop,(∀S' H',N S' H'->∃b,b<m/\W (i+1) b S' H')/\∀x H',J.lF i H x H'->g x σ H' λa H2=>c {D with nx:=N,ct:=N,bk:=D.nx} a H2)):tJ wi g c D σ H:=h
def rd_comp (h:wi σ H λJ H1=>∃W:Nat->Nat->N2->Hp->Prop,(∃m,W 0 m [] H1)/\∀i m ys H,W i m ys H->
 (J.stop i H/\⇑ys<=sizeLine/\∀p,H p=none->Q (.ref p) (upd H p (.lst ys)))\/
 (J.go i H/\∃N:N2->Hp->Prop,(∀a H',N a H'->∃e,e<m/\W (i+1) e a H')/\∀x H',J.lF i H x H'->g x (cW n ci σ) H' λc H2=>tf c H2 λb d=>
  if b=true then te c d λv f=>⇑ys<sizeLine/\N (ys++[v]) f else N ys d)):nP wi n ci g tf te σ H Q:=h
def rd_yes{R:Bool->Hp->Prop}(h:R true H):tS σ H R:=h
def Jq{n:Nat}{ci:L6}{g:TG}{x:V}{S':St}{R:St->Hp->Prop}(e:cW n ci σ=S')(h:g x S' H R):g x (cW n ci σ) H R:=by rw[e];exact h
def jB{t:TS}{S':St}(e:σ=S')(h:t D S' H):t D σ H:=by subst e;exact h
def wu{H H':Hp}(h:H p=none)(e:upd H p o=H'):bI H H':=λb u q=>by rw[<-e,jh (je q h)];exact q
def qT{H H':Hp}(e:upd H p o=H'):H' p=some o:=by rw[<-e];exact jA
end
def bU{K:cg}{p:Addr}{xs:N2}{i:Int}{v:V}{H:Hp}{Q:VK}(h:bK K H p xs)(e:d0 xs i=some v)(q:Q v H):nK K (.ref p) (.int i) H Q:=⟨p,xs,i,v,rfl,rfl,h,e,q⟩
def cD{K:cg}{p:Addr}{xs:N2}{i:Int}{v:V}{H:Hp}{Q:VK}(h:bV K H p xs)(e:d0 xs i=some v)(q:Q v H):oH K (.ref p) (.int i) H Q:=⟨p,xs,i,v,rfl,rfl,h,e,q⟩
def bO{K:cg}{p:Addr}{xs:N2}{i:Int}{v:V}{H:Hp}{Q:VK}(h:H p=some (.tup xs))(q:Q v H)(e:d0 xs i=some v:=by rfl):oH K (.ref p) (.int i) H Q:=⟨p,xs,i,v,rfl,rfl,bV.of h,e,q⟩
end L2
local macro_rules | `(tactic| walk_at "side") => `(tactic| first | with_reducible assumption | exact L2.so (by lia) (by lia) | exact L2.pj (by lia) (by lia) (by lia) (by lia) | exact L2.mulOkC (by first | assumption | exact L2.bits_ediv (by assumption) _) (by lia) (by lia) | lia)
local macro_rules | `(tactic| walk_at $s:str) => do
 let ws:=s.getString.splitOn " "
 if ws.head?==some "f" then
  let vs:=if ws.length==3 then["p"++ws.getD 1 "","hp"++ws.getD 1 "","H"++ws.getD 1 "","s"++ws.getD 1 "",ws.getD 2 ""++ws.getD 1 ""]else ws.drop 1
  let i:=λ(k:Nat)=>Lean.mkIdent (Lean.Name.mkSimple (vs.getD k ""))
  return <-`(tactic| (intro $(i 0):ident $(i 1):ident;generalize eH:L2.upd _ $(i 0) _ = $(i 2):ident;have $(i 3):ident:=L2.wu $(i 1) eH;have $(i 4):ident:=L2.qT eH;clear eH))
 if s.getString != "g" then Lean.Macro.throwUnsupported
 let as <-("rd_seq rd_asg rd_op rd_const rd_i0 rd_cons rd_nil rd_call rd_ret rd_if rd_test rd_tB rd_blP rd_not rd_next rd_v0 rd_v1 rd_v2 rd_v3 rd_v4 rd_v5 rd_v6 rd_v7 rd_v8 rd_v9 rd_v10 rd_v11 rd_v12 rd_v13 rd_v14 rd_v15 rd_v16 rd_un rd_u rd_and rd_or rd_andV rd_notV rd_ifE rd_drop rd_cb rd_lst rd_tup rd_chain rd_bm rd_sl rd_nopart rd_part rd_eqI rd_neI rd_eqS rd_neS rd_str rd_int rd_rng1 rd_iList rd_ipI rd_aug rd_for rd_comp rd_yes rd_dget rd_prC rd_prN rd_iTup rd_sub rd_iEnum rd_iZipW rd_dnew rd_dput rd_bm0 rd_iRev rd_tru rd_revS rd_rngD rd_fld rd_sfld rd_meth rd_make rd_dIn rd_n0 rd_n1 rd_n2 rd_n3 rd_n4 rd_n5 rd_n6 rd_n7 rd_n8 rd_n9 rd_n10 rd_n11 rd_n12 rd_n13 rd_n14 rd_n15 rd_n16 rd_p18 rd_p30 rd_p60".splitOn " ").toArray.mapM λn=>`(Lean.Parser.Tactic.tacticSeq| refine $(Lean.mkIdent (Lean.Name.mkStr2 "L2" n)) ?_)
 `(tactic| repeat first | with_reducible (first $[| $as]*) | (with_reducible refine L2.Mg ?c ?_; (case c => ((try dsimp only); walk_at "side"))))
local macro_rules | `(tactic| exists $e) => `(tactic| (walk_at "g"; refine $e))
local macro_rules | `(tactic| ac_nf) => `(tactic| walk_at "g")
local macro_rules | `(tactic| sleep $n) => `(tactic| walk_at $(Lean.Syntax.mkStrLit s!"f {n.getNat} t"))
local macro_rules | `(tactic| trivial) => `(tactic| decide +kernel)
namespace Rp
noncomputable def ramp(s g b j:Int):Int:=s+(g-s)*j/b
end Rp
namespace Pr
open PySem L2
noncomputable def cell(ns:L5)(k:Int):Int:=ns.getD k.toNat 0
inductive dF(K:cg)(vs:N2)(H:Hp)(Q:VK)(xk:XK):Prop
 | mk (a) (ns:L5) (k):vs=[.ref a,.int k]->bK K H a (ns.map V.int)->⇑ns<=63->0<=k->Q (.int (cell ns k)) H->dF K vs H Q xk
def Ig{a:L5}{k:Int}(d:0<=k)(h:k<(⇑a:Int)):d0 (a.map V.int) k=some (.int (cell a k)):=by
 have c:k=((k.toNat:Nat):Int):=⋯
 have b:k.toNat<⇑a:=⋯
 have q:d0 (a.map V.int) ((k.toNat:Nat):Int)=some (.int a[k.toNat]):=jK (by rw[vv,vz b]<;>rfl);rw[<-c]at q;rw[q];unfold cell;rw[vy,vz b];rfl
inductive gz(K:cg)(vs:N2)(H:Hp)(Q:VK)(xk:XK):Prop
 | mk (a) (ns:L5):vs=[.ref a]->bK K H a (ns.map V.int)->⇑ns<=63->(∀x∈ns,Builtin.Int.intBits x<=1048576)->(∀H',Q (.bl true) H')->gz K vs H Q xk
def B4(s g b j:Int):Prop:=-10^61<=s/\s<=10^61/\-10^61<=g/\g<=10^61/\0<b/\b<=10^61/\-10^61<=j/\j<=10^61
def Ci:Sp:=λvs H Q q=>∃s g b j:Int,vs=[.int s,.int g,.int b,.int j]/\B4 s g b j/\Q (.int (Rp.ramp s g b j)) H
end Pr
namespace Ws
open PySem PySem.NumText L2
noncomputable def lets:Str:="abcdefghijklmnopqrstuvwxyz"
noncomputable def among(x z:Str):Bool:=decide (∀c∈x.cps.toList,c∈z.cps.toList)
noncomputable def fG(x:Str):Bool:=decide (1<=⇑x/\⇑x<=8)&&among x lets
def GS{H H':Hp}{p:Addr}{o:HO}(h:bI H H')(a:H p=none):bI H (upd H' p o):=λb u q=>by
 rw[jh (je q a)];exact h b u q
open PySem L2
end Ws
namespace Rm
open PySem PySem.NumText PyProof.Rows L2
def Io{x:Str}{lo hi:Nu}:⇑(Txt.slice x lo hi)<=⇑x:=Txt.slice_le x lo hi
def Gw:c∈Ws.lets.cps.toList↔97<=c/\c<=122:=by
 rw[show Ws.lets.cps.toList=List.range' 97 26 by trivial,List.mem_range'_1];lia
def CZ{i:Int}(a:0<=i)(b:i<26):d0 (Str.ofString "abcdefghijklmnopqrstuvwxyz").cps.toList i=some (97+i.toNat):=by
 have h:∀k:Nat,k<26->d0 (Str.ofString "abcdefghijklmnopqrstuvwxyz").cps.toList (k:Int)=some (97+(k:Int).toNat):=by trivial
 have e:=h i.toNat ⋯;rw[Int.toNat_of_nonneg a]at e;exact e
open PySem L2
def none_of{H H':Hp}(s:bI H H')(h:H' p=none):H p=none:=by
 cases e:H p with
 | none=>rfl
 | some u=>rw[s _ _ e]at h;cases h
inductive Fm where
 | hold (n:Int) | ring (x:Str) (n:Int) | rise (x:Str) (h n:Int) | row (ps:L8) | side (ps:L8) | again (k:Int) (x:Str)
abbrev N1:=List (Str×Fm)
noncomputable def bN(H:Hp)(a:Addr):Fm->Prop
 | .hold n=>H a=some (.tup [.str "hold",.int n])
 | .ring x n=>H a=some (.tup [.str "ring",.str x,.int n])
 | .rise x h n=>H a=some (.tup [.str "raise",.str x,.int h,.int n])
 | .row ps=>∃b,H a=some (.tup [.str "row",.ref b])/\H b=some (.tup (ps.map V.str))
 | .side ps=>∃b,H a=some (.tup [.str "side",.ref b])/\H b=some (.tup (ps.map V.str))
 | .again k x=>H a=some (.tup [.str "again",.int k,.str x])
def cJ(H:Hp)(a:Addr)(p:Str×Fm):Prop:=∃b,H a=some (.tup [.str p.1,.ref b])/\bN H b p.2
def eQ(H:Hp)(a:Addr)(p:Str×Int):Prop:=H a=some (.tup [.str p.1,.int p.2])
def bL{α:Type}(R:Addr->α->Prop)(as:L7)(xs:List α):Prop:=⇑as=⇑xs/\∀(i:Nat) (a:Addr) (x:α),as[i]?=some a->xs[i]?=some x->R a x
def bL.nil{b:Type}{R:Addr->b->Prop}:bL R [] []:=⟨rfl,λi a x h=>by simp at h⟩
def bL.mono{b:Type}{R S:Addr->b->Prop}{as:L7}{xs:List b}(h:bL R as xs)(k:∀a x,R a x->S a x):bL S as xs:=⟨h.1,λi a x c d=>k a x (h.2 i a x c d)⟩
def bL.snoc{f:Type}{R:Addr->f->Prop}{as:L7}{xs:List f}{a:Addr}{x:f}(h:bL R as xs)(k:R a x):bL R (as++[a]) (xs++[x]):=by
 have j:=h.1;refine⟨by simp[j],λi b y c d=>?_⟩;by_cases g:i<⇑as
 .rw[vB g]at c;rw[vB ⋯]at d;exact h.2 i b y c d
 .rw[vC ⋯]at c;rw[vC ⋯]at d;have e:i-⇑as=0:=by
   have:=(vx.mp c).1;simp at this;lia
  rw[e]at c;rw[show i-⇑xs=0 by lia]at d;simp at c d;subst c d;exact k
def bL.get{b:Type}{R:Addr->b->Prop}{as:L7}{xs:List b}{i:Nat}{x:b}(h:bL R as xs)(d:xs[i]?=some x):∃a,as[i]?=some a/\R a x:=by
 have e:=(vx.mp d).1;have f:=h.1;have c:as[i]?=some as[i]:=vz ⋯;exact⟨_,c,h.2 i _ _ c d⟩
section
variable{m:Rr}{f:Fm}{ks:L5}{g:Int}
def getD_snoc{a:Type}{l:List a}{x d:a}{j:Nat}(h:j<⇑l):(l++[x]).getD j d=l.getD j d:=by
 rw[vy,vy,vB h]
def getD_last{a:Type}{l:List a}{x d:a}:(l++[x]).getD ⇑l d=x:=by
 simp_all
end
def getD_in{a:L8}{n:Nat}(h:n<⇑a):a.getD n ⟨#[]⟩∈a:=by
 simp_all
def Z1{as:L7}{i:Int}{a:Addr}(b:0<=i)(h:as[i.toNat]?=some a):d0 (as.map V.ref) i=↥a:=by
 have e:d0 (as.map V.ref) ((i.toNat:Nat):Int)=↥a:=jK (by simp_all);rw[Int.toNat_of_nonneg b]at e;exact e
open PySem PySem.Spec PyProof.Rows L2
noncomputable def vN(j:Nat):V:=.int j
theorem KG:∀{ks:L5} {lo hi:Int},ks.Pairwise (· < ·)->(∀k∈ks,lo<=k/\k<hi)->⇑ks<=(hi-lo).toNat
 | [],_,_,_,_=>va _
 | k::r,lo,hi,h,b=>by
  have c:=KG (ks:=r) (lo:=k+1) (hi:=hi) (vV.mp h).2 λx a=>⟨(vV.mp h).1 x a,(b x (vp _ a)).2⟩
  have d:=b k vq;rw[vQ];lia
def rM{H:Hp}(h:H a=some (.lst [])):DV H (.ref a) (.list []):=.lst h .nil
def mQ:SeqAt.shaped (.list [])=true:=PySem.W.ke_shaped_ints []
theorem CC(n:Int):∀hs:L5,mN (.int n) (hs.map V.int)=decide (n∈hs)
 | []=>rfl
 | h::r=>by
  have a:=CC n r;unfold mN at a|-;rw[v9,any_cons,a];have e:me (.int h) (.int n)=decide (h=n):=by
   show decide _=_;simp
  grind
def D7(n:Int)(a:L5):(if false=true then !mN (.int n) (a.map V.int)else mN (.int n) (a.map V.int))=decide (n∈a):=by rw[vc nofun,CC]
theorem oT:∀hs:L5,(hs.map V.int).all dU=true
 | []=>rfl
 | h::r=>by rw[v9,all_cons,oT r];rfl
def take_snoc{a:Type}{l:List a}{i:Nat}{x:a}(h:l[i]?=some x):l.take (i+1)=l.take i++[x]:=by
 rw[List.take_add_one,h];rfl
def sJ{is:L6}{i:Nat}{x:V}(h:(is.map vN)[i]?=some x):∃j,is[i]?=some j/\x = .int j/\j∈is:=by
 rw[vv]at h;let⟨j,a,rfl⟩:=vg.mp h;exact⟨j,a,rfl,vm a⟩
def Fv{ms c:L5}(e:ms.Perm c)(f:c.Nodup)(d:ms.Pairwise (·<=·)):ms.Pairwise (· < ·):=
 (List.Pairwise.and d (e.nodup_iff.mpr f)).imp λ{a b} h=>by have g:=h.1;have i:a≠b:=h.2;lia
def dN(n:Nat)(d:PyData):Prop:=d.canLay0=true/\d.depth<=n
def dN.int:dN 0 (.int i):=⟨rfl,vb _⟩
def dN.str(h:PyData.strOk x=true):dN 0 (.str x):=⟨h,vb _⟩
def dN.mono(h:dN n d)(a:n<=k):dN k d:=⟨h.1,vW h.2 a⟩
theorem kW:∀{ds:List PyData},(∀d∈ds,dN n d)->PyData.canLayAll0 ds=true/\PyData.depthAll ds<=n
 | [],_=>⟨rfl,va _⟩
 | d::r,h=>by
  have a:=h d vq;have b:=kW (ds:=r) λx c=>h x (vp _ c)
  constructor
  .show(d.canLay0&&PyData.canLayAll0 r)=true;rw[a.1,b.1];rfl
  .show max d.depth (PyData.depthAll r)<=n;exact Nat.max_le.mpr ⟨a.2,b.2⟩
def dN.lst(h:∀d∈ds,dN n d):dN (n+1) (.list ds):=⟨(kW h).1,Nat.succ_le_succ (kW h).2⟩
def dN.tup(h:∀d∈ds,dN n d):dN (n+1) (.tuple ds):=⟨(kW h).1,Nat.succ_le_succ (kW h).2⟩
def dN.ok(h:dN n d)(a:n<=64):SeqAt.shaped d=true:=by
 unfold SeqAt.shaped;rw[h.1,Bool.true_and];exact vG (vW h.2 a)
def IP(h:Ws.fG x=true):PyData.strOk x=true:=by
 unfold Ws.fG Ws.among at h;rw[Bool.and_eq_true]at h;have a:=of_decide_eq_true h.2;unfold PyData.strOk;rw[Array.all_eq_true_iff_forall_mem];intro c b;have:=Gw.mp (a c #v[b]);exact vG ⋯
theorem Z8{H:Hp}:∀(xs:L8),gN H (xs.map V.str) (xs.map PyData.str)
 | []=>.nil
 | x::r=>.cons (.str x) (Z8 r)
def bL.tail{c:Type}{R:Addr->c->Prop}{a:Addr}{x:c}{as:L7}{xs:List c}(h:bL R (a::as) (x::xs)):R a x/\bL R as xs:=
 ⟨h.2 0 a x rfl rfl,Nat.succ.inj h.1,λi b y d e=>h.2 (i+1) b y #v[d] #v[e]⟩
noncomputable def uP:Fm->Prop
 | .hold n=>0<=n/\n<=10^18
 | .ring x n=>Ws.fG x=true/\0<=n/\n<=10^18
 | .rise x h n=>Ws.fG x=true/\0<=h/\h<=10^18/\0<=n/\n<=10^18
 | .row ps=>⇑ps<=8/\∀x∈ps,Ws.fG x=true
 | .side ps=>⇑ps<=8/\∀x∈ps,Ws.fG x=true
 | .again k x=>0<=k/\k<=10^18/\Ws.fG x=true
structure uM(ls:L4)(ps:N1):Prop where
 l8:⇑ls<=8
 ln:∀p∈ls,Ws.fG p.1=true/\0<=p.2/\p.2<=10^18
 mW:⇑ps<=61
 pn:∀p∈ps,Ws.fG p.1=true/\uP p.2
def GV{n:Nat}{xs:L8}(h:∀x∈xs,Ws.fG x=true):∀d∈xs.map PyData.str,dN n d:=λd a=>by
 let⟨x,b,rfl⟩:=vK.mp a;exact(dN.str (IP (h x b))).mono (va _)
structure cx(H:Hp)(b pl pp:Addr)(las pas:L7)(ls:L4)(ps:N1):Prop where
 t:H b=some (.tup [.ref pl,.ref pp])
 l:H pl=some (.lst (las.map V.ref))
 la:bL (eQ H) las ls
 p:H pp=some (.lst (pas.map V.ref))
 pa:bL (cJ H) pas ps
def bN.same{H H':Hp}(s:bI H H')(h:bN H a f):bN H' a f:=by
 cases f with
 | row ps=>let⟨b,c,d⟩:=h;exact⟨b,s _ _ c,s _ _ d⟩
 | side ps=>let⟨b,c,d⟩:=h;exact⟨b,s _ _ c,s _ _ d⟩
 | hold n=>exact s _ _ h
 | ring x n=>exact s _ _ h
 | rise x g n=>exact s _ _ h
 | again x n=>exact s _ _ h
def cJ.same{H H':Hp}(s:bI H H')(h:cJ H a p):cJ H' a p:=by
 let⟨b,c,d⟩:=h;exact⟨b,s _ _ c,bN.same s d⟩
def cx.same{H H':Hp}(B:cx H b pl pp las pas ls ps)(s:bI H H'):cx H' b pl pp las pas ls ps:=
 ⟨s _ _ B.t,s _ _ B.l,B.la.mono λa x h=>s _ _ h,s _ _ B.p,B.pa.mono λa x h=>cJ.same s h⟩
def getD_inj{a:L8}(d:a.Nodup){i j:Nat}(hi:i<⇑a)(b:j<⇑a)(h:a.getD i ⟨#[]⟩=a.getD j ⟨#[]⟩):i=j:=by
 rw[vy,vy,vz hi,vz b]at h;have c:a[i]=a[j]:=h;rcases Nat.lt_trichotomy i j with q | q | q
 .exact uf c (pairwise_iff_getElem.mp d i j hi b q)
 .exact q
 .exact uf c.symm (pairwise_iff_getElem.mp d j i b hi q)
open PyProof.Rows.KTD (inKeys Dat)
def dZ:d0 (x::xs) 0=some x:=jK (j:=0) rfl
def dW{A B:Prop}(e:b=false)(h:B):if b=true then A else B:=by rw[e];exact h
def lA{A B:Prop}(e:b=true)(h:A):if b=true then A else B:=by rw[e];exact h
def bL.cz{e:Type}{R:Addr->e->Prop}{as:L7}{xs:List e}{i:Nat}{v:V}(h:bL R as xs)(c:(as.map V.ref)[i]?=some v):∃a x,v = .ref a/\xs[i]?=some x/\R a x:=by
 rw[vv]at c;let⟨a,b,rfl⟩:=vg.mp c;have f:=(vx.mp b).1;have g:=h.1;have d:xs[i]?=some xs[i]:=vz ⋯;exact⟨a,_,rfl,d,h.2 i a _ b d⟩
theorem YG:∀{n:Nat} {hs:L5},hs.Nodup->(∀k∈hs,0<=k/\k<(n:Int))->⇑hs<=n
 | 0,hs,_,h=>by
  cases hs with
  | nil=>exact vb _
  | cons k r=>have:=h k vq;lia
 | n+1,hs,nd,h=>by
  by_cases e:(n:Int)∈hs
  .have i:=YG (n:=n) (nd.erase (n:Int)) λk a=>by
    have b:=h k (List.mem_of_mem_erase a);have c:k≠(n:Int):=λz=>nd.not_mem_erase (z▸a)
    lia
   simp_all
  .have i:=YG (n:=n) nd λk a=>by
    have b:=h k a;have c:k≠(n:Int):=λz=>e (z▸a)
    lia
   lia
noncomputable def Fm.ns:Fm->L8
 | .row ps=>ps
 | .side ps=>ps
 | .again _ x=>[x]
 | _=>[]
noncomputable def fI(xs:L8):List (Key×V):=xs.zipIdx.map λp=>(Sum.inr p.1,.int (p.2:Nat))
def E9(xs:L8)(x:Str):fI (xs++[x])=fI xs++[(Sum.inr x,.int (⇑xs:Nat))]:=by
 unfold fI;rw[List.zipIdx_append,vj];simp
def G7(xs:L8):⇑(fI xs)=⇑xs:=by simp[fI]
def xu(xs:L8):(fI xs).map (·.1)=xs.map Sum.inr:=by
 unfold fI;rw[v6];have e:∀(k:Nat) (xs:L8),(xs.zipIdx k).map (Function.comp (λx=>x.1) λp:Str×Nat=>((Sum.inr p.1:Key),V.int (p.2:Nat)))=xs.map Sum.inr:=λk xs=>by
  induction xs generalizing k with
  | nil=>rfl
  | cons x r ih=>simp_all
 exact e 0 xs
def HC{xs:L8}{j:Nat}{x:Str}(h:xs[j]?=some x):(fI xs)[j]?=some (Sum.inr x,.int (j:Nat)):=by
 unfold fI
 simp_all
theorem Ww:∀{kvs:List (Key×V)} {j:Nat} {k:Key} {v:V},(kvs.map (·.1)).Nodup->kvs[j]?=some (k,v)->cO kvs k=some v
 | [],j,k,v,_,h=>by simp at h
 | p::r,0,k,v,_,h=>by
  simp at h;subst h;unfold cO;simp
 | p::r,j+1,k,v,nd,h=>by
  rw[v9,uo]at nd;have a:r[j]?=some (k,v):=by simpa using h
  have c:p.1≠k:=λe=>nd.1 (e▸vK.mpr ⟨(k,v),vm a,rfl⟩)
  have b:=Ww nd.2 a;unfold cO at b|-;rw[List.find?_cons,vH c];exact b
def Yd{xs:L8}(a:xs.Nodup){j:Nat}{x:Str}(h:xs[j]?=some x):cO (fI xs) (Sum.inr x)=some (.int (j:Nat)):=
 Ww (by rw[xu];exact pairwise_map.mpr (a.imp λh e=>h (Sum.inr.inj e))) (HC h)
def Yi{kvs:List (Key×V)}{k:Key}{v:V}(h:k∉kvs.map (·.1)):putK kvs k v=kvs++[(k,v)]:=by
 unfold putK
 simp_all
noncomputable def cn:L8->Str->Nat
 | [],_=>0
 | y::r,x=>if y=x then 0 else cn r x+1
theorem j2:∀{xs:L8} {j:Nat} {x:Str},xs.Nodup->xs[j]?=some x->cn xs x=j
 | [],j,x,_,h=>by simp at h
 | y::r,0,x,_,h=>by
  simp at h;subst h;exact vd rfl
 | y::r,j+1,x,nd,h=>by
  rw[uo]at nd;have a:r[j]?=some x:=by simpa using h
  have b:y≠x:=λe=>nd.1 (e▸vm a)
  show(if y=x then 0 else cn r x+1)=j+1;rw[vc b,j2 nd.2 a]
noncomputable def bF{α:Type}(ps:List (Str×α)):L8:=ps.map (·.1)
noncomputable def bY(ps:N1)(f:Fm):L6:=f.ns.map (cn (bF ps))
structure dC(ls:L4)(ps:N1):Prop where
 ln:(bF ls).Nodup
 l8:⇑ls<=8
 pn:(bF ps).Nodup
 mW:⇑ps<=61
 f:∀(i:Nat) (p:Str×Fm),ps[i]?=some p->(∀x∈p.2.ns,∃j,j<i/\(bF ps)[j]?=some x)/\⇑p.2.ns<=8
 r:∀(i:Nat) (y x:Str) (h n:Int),ps[i]?=some (y,.rise x h n)->∃j:Nat,(bF ls)[j]?=some x
def dC.cq(W:dC ls ps)(h:ps[i]?=some p)(a:j∈bY ps p.2):j<i:=by
 let⟨x,c,rfl⟩:=vK.mp a;let⟨k,b,e⟩:=(W.f i p h).1 x c;rw[j2 W.pn e];exact b
inductive cI(vs:N2)(H:Hp)(Q:VK)(xk:XK):Prop
 | mk (l) (as:L7) (xs:L8):vs=[.ref l]->H l=some (.lst (as.map V.ref))->⇑as=⇑xs->(∀(i:Nat) (a:Addr) (x:Str),as[i]?=some a->xs[i]?=some x->∃r,H a=some (.tup [.str x,r]))->xs.Nodup->⇑xs<=100->(∀(d:Addr) (H':Hp),bI H H'->H d=none->H' d=some (.dK (fI xs))->Q (.ref d) H')->cI vs H Q xk
def fk(H:Hp)(as:L7)(M:L1):Prop:=bL (λa ks=>H a=some (.lst (ks.map V.int))) as M
def bL.mi{c:Type}{R S:Addr->c->Prop}{as:L7}{xs:List c}(h:bL R as xs)(k:∀a∈as,∀x,R a x->S a x):bL S as xs:=⟨h.1,λi a x b d=>k a (vm b) x (h.2 i a x b d)⟩
inductive ff(vs:N2)(H:Hp)(Q:VK)(xk:XK):Prop
 | mk (b pl pp las pas ls) (ps:N1):vs=[.ref b]->cx H b pl pp las pas ls ps->dC ls ps->(∀(l:Addr) (as:L7) (H':Hp),bI H H'->H l=none->H' l=some (.lst (as.map V.ref))->(∀a∈as,H a=none)->fk H' as (ps.map λp=>(bY ps p.2).map λj:Nat=>(j:Int))->Q (.ref l) H')->ff vs H Q xk
def r9(H:Hp)(bs:L7)(e:Np):Prop:=bL (λb q=>H b=some (.tup [.int q.1,.int q.2])) bs e
def lO(H:Hp)(as:L7)(E:L0):Prop:=bL (λa e=>∃bs,H a=some (.lst (bs.map V.ref))/\r9 H bs e) as E
def eO(E:L0)(is:L6)(k v:Int):Prop:=∃pre j post,is=pre++j::post/\(k,v)∈E.getD j []/\∀j'∈post,∀v',(k,v')∉E.getD j' []
def iN(ls:L4)(ps:N1)(E:L0)(f:Fm)(k v:Int):Prop:=eO E (bY ps f) k v\/∃x n,f = .rise x v n/\k=(cn (bF ls) x:Nat)
def cP(ls:L4)(ps:N1)(E:L0):Prop:=∀(i:Nat) (p:Str×Fm) (e:Np),ps[i]?=some p->E[i]?=some e->(e.map (·.1)).Pairwise (· < ·)/\∀k v,(k,v)∈e↔iN ls ps E p.2 k v
inductive g6(vs:N2)(H:Hp)(Q:VK)(xk:XK):Prop
 | mk (b pl pp las pas ls) (ps:N1):vs=[.ref b]->cx H b pl pp las pas ls ps->dC ls ps->(∀(l:Addr) (as:L7) (E:L0) (H':Hp),bI H H'->H l=none->H' l=some (.lst (as.map V.ref))->(∀a∈as,H a=none)->⇑E=⇑ps->lO H' as E->cP ls ps E->Q (.ref l) H')->g6 vs H Q xk
def dA(ls:L4)(ps:N1)(M:L1):Prop:=∀(i:Nat) (p:Str×Fm) (ks:L5),ps[i]?=some p->M[i]?=some ks->ks.Pairwise (· < ·)/\∀k,k∈ks↔(∃j∈bY ps p.2,k∈M.getD j [])\/∃x h n,p.2 = .rise x h n/\k=(cn (bF ls) x:Nat)
inductive iu(vs:N2)(H:Hp)(Q:VK)(xk:XK):Prop
 | mk (b pl pp las pas ls) (ps:N1):vs=[.ref b]->cx H b pl pp las pas ls ps->dC ls ps->(∀(l:Addr) (as:L7) (M:L1) (H':Hp),bI H H'->H l=none->H' l=some (.lst (as.map V.ref))->(∀a∈as,H a=none)->⇑M=⇑ps->fk H' as M->dA ls ps M->Q (.ref l) H')->iu vs H Q xk
theorem um:∀{a b:L5},a.Pairwise (· < ·)->b.Pairwise (· < ·)->(∀k,k∈a↔k∈b)->a=b
 | [],[],_,_,_=>rfl
 | [],y::s,_,_,h=>uf ((h y).mpr vq) (by simp)
 | x::r,[],_,_,h=>uf ((h x).mp vq) (by simp)
 | x::r,y::s,ha,hb,h=>by
  rw[vV]at ha hb;have e:x=y:=by
   rcases mem_cons.mp ((h x).mp vq)with q | q
   .exact q
   .rcases mem_cons.mp ((h y).mpr vq)with d | d
    .exact d.symm
    .have f:=hb.1 x q;have g:=ha.1 y d;lia
  subst e;congr 1;refine um ha.2 hb.2 λk=>⟨λc=>?_,λc=>?_⟩
  .rcases mem_cons.mp ((h k).mp (vp _ c))with q | q
   .have:=ha.1 k c;lia
   .exact q
  .rcases mem_cons.mp ((h k).mpr (vp _ c))with q | q
   .have:=hb.1 k c;lia
   .exact q
def getD_map{E:L0}(j:Nat):(E.map λe=>e.map (·.1)).getD j []=(E.getD j []).map (·.1):=by
 rw[vy,vy,vv];cases E[j]?<;>rfl
def Xx{k:Int}{e:Np}:k∈e.map (·.1)↔∃v,(k,v)∈e:=by
 simp_all
theorem Xu:∀{is:L6},(∃v,eO E is k v)↔∃j∈is,∃v,(k,v)∈E.getD j []
 | []=>⟨λ⟨v,b,j,a,e,_⟩=>by cases b<;>simp at e,λ⟨j,h,_⟩=>by simp at h⟩
 | i::r=>by
  have p:=Xu (E:=E) (k:=k) (is:=r);constructor
  .rintro⟨v,b,j,a,e,c,m⟩;exact⟨j,by rw[e];simp,v,c⟩
  .rintro⟨j,d,v,n⟩;by_cases q:∃j∈r,∃v,(k,v)∈E.getD j []
   .let⟨l,b,g,a,e,c,m⟩:=p.mpr q;exact⟨l,i::b,g,a,by rw[e];rfl,c,m⟩
   .rcases mem_cons.mp d with rfl | d
    .exact⟨v,[],j,r,rfl,n,λg o l f=>q ⟨g,o,l,f⟩⟩
    .exact uf ⟨j,d,v,n⟩ q
def C5{ls:L4}{ps:N1}{E:L0}(s:⇑E=⇑ps)(h:cP ls ps E):dA ls ps (E.map λe=>e.map (·.1)):=λi p t q d=>by
 rw[vv]at d;let⟨e,o,rfl⟩:=vg.mp d;let⟨a,b⟩:=h i p e q o;refine⟨a,λk=>?_⟩;rw[Xx];constructor
 .rintro⟨v,r⟩;rcases(b k v).mp r with z | ⟨x,n,f,g⟩
  .let⟨j,l,m,c⟩:=Xu.mp ⟨v,z⟩;exact .inl ⟨j,l,by rw[getD_map];exact Xx.mpr ⟨m,c⟩⟩
  .exact .inr ⟨x,v,n,f,g⟩
 .rintro(⟨j,l,d⟩ | ⟨x,h,n,f,g⟩)
  .rw[getD_map]at d;let⟨m,c⟩:=Xx.mp d;let⟨v,z⟩:=Xu.mpr ⟨j,l,m,c⟩;exact⟨v,(b k v).mpr (.inl z)⟩
  .exact⟨h,(b k h).mpr (.inr ⟨x,n,f,g⟩)⟩
def Xp(h:x∈xs):cn xs x<⇑xs:=by
 induction xs with
 | nil=>exact nomatch h
 | cons y r ih=>
  show(if y=x then 0 else cn r x+1)<⇑r+1;split
  .lia
  .rename_i hne;rcases mem_cons.mp h with e | e
   .exact uf e.symm hne
   .have:=ih e;lia
def y9(W:dC ls ps)(s:⇑E<=⇑ps)(h:cP ls ps E):∀(i:Nat),∀q∈E.getD i [],0<=q.1/\q.1<(⇑ls:Int):=by
 intro i
 induction i using Nat.strongRecOn with
 | ind i ih=>
  intro q g;rw[vy]at g;cases e:E[i]? with
  | none=>simp_all
  | some ev=>
   rw[e]at g;have r:=(vx.mp e).1;have d:ps[i]?=some ps[i]:=vz ⋯;let⟨Z,b⟩:=h i _ ev d e;rcases(b q.1 q.2).mp g with⟨m,j,k,a,c,_⟩ | ⟨x,n,a,c⟩
   .exact ih j (W.cq d (by rw[a];simp)) _ c
   .have f:ps[i]?=some (ps[i].1,.rise x q.2 n):=by rw[d,<-a]
    let⟨j,l⟩:=W.r i _ _ _ _ f;have o:=Xp (vm l);have p:⇑(bF ls)=⇑ls:=vt _;rw[c];lia
def BI{ls:L4}{ps:N1}(W:dC ls ps){E:L0}(f:⇑E<=⇑ps)(h:cP ls ps E){i:Nat}{e:Np}(c:E[i]?=some e):⇑e<=8:=by
 have hi:=(vx.mp c).1;have a:=(h i _ e (vz ⋯) c).1;have b:=y9 W f h i;rw[vy,c]at b;have z:=KG (ks:=e.map (·.1)) (lo:=0) (hi:=⇑ls) a λk d=>by
  let⟨q,g,rfl⟩:=vK.mp d;exact b q g
 rw[vt]at z;have:=W.l8;lia
noncomputable def hW(kvs:Np)(k v:Int):Np:=if k∈kvs.map (·.1)then kvs.map (λq=>if q.1=k then(q.1,v)else q)else kvs++[(k,v)]
noncomputable def eU(kvs more:Np):Np:=more.foldl (λacc q=>hW acc q.1 q.2) kvs
def Hn(kvs:Np)(k v:Int):putK (kvs.map iQ) (Sum.inl k) (.int v)=(hW kvs k v).map iQ:=by
 have e:(((kvs.map iQ).any λkv=>decide (kv.1=(Sum.inl k:Key)))=true)↔k∈kvs.map (·.1):=by
  rw[List.any_map,any_eq_true];constructor
  .rintro⟨q,a,h⟩;have b:(Sum.inl q.1:Key)=Sum.inl k:=of_decide_eq_true h;exact vK.mpr ⟨q,a,Sum.inl.inj b⟩
  .intro h;let⟨q,a,rfl⟩:=vK.mp h;exact⟨q,a,vG rfl⟩
 unfold putK hW;by_cases c:k∈kvs.map (·.1)
 .rw[vd (e.mpr c),vd c,v6,v6];refine map_congr_left λq j=>?_
  show(if(Sum.inl q.1:Key)=Sum.inl k then _ else _)=iQ (if q.1=k then(q.1,v)else q);by_cases z:q.1=k
  .rw[vd z,vd (by rw[z])];rfl
  .rw[vc z,vc (λw=>z (Sum.inl.inj w))]
 .rw[vc (λw=>c (e.mp w)),vc c,vj];rfl
theorem Y5:∀(more kvs:Np),cC (kvs.map iQ) (more.map iQ)=(eU kvs more).map iQ
 | [],kvs=>rfl
 | q::r,kvs=>by
  show cC (putK (kvs.map iQ) (Sum.inl q.1) (.int q.2)) (r.map iQ)=(eU (hW kvs q.1 q.2) r).map iQ;rw[Hn,Y5 r]
def Fg(kvs:Np)(k v:Int)(d:(kvs.map (·.1)).Nodup):((hW kvs k v).map (·.1)).Nodup:=by
 unfold hW;split
 .rw[v6];have e:kvs.map (Function.comp (λx=>x.1) λq=>if q.1=k then(q.1,v)else q)=kvs.map (·.1):=map_congr_left λq j=>by
   show(if q.1=k then(q.1,v)else q).1=q.1;split<;>rfl
  rw[e];exact d
 .rename_i c;rw[vj,nodup_append];exact⟨d,pairwise_singleton _ _,λa f b g e=>c (by rw[show k=b from(vo.mp g).symm,<-e];exact f)⟩
def Gx:(a,b)∈hW kvs k v↔(a=k/\b=v)\/(a≠k/\(a,b)∈kvs):=by
 unfold hW;split
 .rename_i c;rw[vK];constructor
  .rintro⟨q,d,e⟩;by_cases z:q.1=k
   .rw[vd z]at e;cases e;exact .inl ⟨z,rfl⟩
   .rw[vc z]at e;subst e;exact .inr ⟨z,d⟩
  .rintro(⟨rfl,rfl⟩ | ⟨f,g⟩)
   .let⟨q,d,e⟩:=vK.mp c;exact⟨q,d,by rw[vd e,e]⟩
   .exact⟨(a,b),g,by rw[vc f]⟩
 .rename_i c;rw[vh];constructor
  .rintro(h | h)
   .exact .inr ⟨λe=>c (e▸vK.mpr ⟨(a,b),h,rfl⟩),h⟩
   .cases vo.mp h;exact .inl ⟨rfl,rfl⟩
  .rintro(⟨rfl,rfl⟩ | ⟨_,h⟩)
   .exact .inr (vo.mpr rfl)
   .exact .inl h
theorem xm:∀{more kvs:Np},(kvs.map (·.1)).Nodup->(more.map (·.1)).Nodup->((eU kvs more).map (·.1)).Nodup/\∀k v,(k,v)∈eU kvs more↔(k,v)∈more\/((∀c,(k,c)∉more)/\(k,v)∈kvs)
 | [],kvs,nd,_=>⟨nd,λk v=>⟨λh=>.inr ⟨(λZ h=>nomatch h),h⟩,λh=>h.elim (λh=>nomatch h) (·.2)⟩⟩
 | q::r,kvs,nd,nm=>by
  rw[v9,uo]at nm;let⟨a,b⟩:=xm (more:=r) (kvs:=hW kvs q.1 q.2) (Fg _ _ _ nd) nm.2;refine⟨a,λk v=>(b k v).trans ?_⟩;rw[Gx];have i:∀c,(q.1,c)∉r:=λc h=>nm.1 (vK.mpr ⟨_,h,rfl⟩)
  constructor
  .rintro(h | ⟨f,⟨rfl,rfl⟩ | ⟨g,j⟩⟩)
   .exact .inl (vp _ h)
   .exact .inl vq
   .refine .inr ⟨λc d=>?_,j⟩;rcases mem_cons.mp d with e | e
    .exact g (by rw[<-e])
    .exact f c e
  .rintro(h | ⟨f,g⟩)
   .rcases mem_cons.mp h with e | e
    .refine .inr ⟨λc d=>?_,.inl ⟨by rw[<-e],by rw[<-e]⟩⟩;rw[<-e]at i;exact i c d
    .exact .inl e
   .refine .inr ⟨λc d=>f c (vp _ d),.inr ⟨λe=>?_,g⟩⟩;exact f q.2 (by rw[e];exact vq)
def Ey(b:(ms.map (·.1)).Nodup):eU [] ms=ms:=by
 have e:∀(r a:Np),((a++r).map (·.1)).Nodup->eU a r=a++r:=by
  intro r
  induction r with
  | nil=>intro a j;exact(append_nil _).symm
  | cons q r ih=>
   intro a b;have c:q.1∉a.map (·.1):=λh=>by
    grind
   show eU (hW a q.1 q.2) r=_;unfold hW;rw[vc c,ih (a++[(q.1,q.2)]) (by rw[List.append_assoc];exact b),List.append_assoc];rfl
 exact e ms [] b
def FW:eO E (is++[j]) k v↔(k,v)∈E.getD j []\/((∀g,(k,g)∉E.getD j [])/\eO E is k v):=by
 constructor
 .rintro⟨c,i,a,e,l,f⟩;rcases List.eq_nil_or_concat a with rfl | ⟨b,x,rfl⟩
  .simp_all
  .have o:is++[j]=(c++i::b)++[x]:=by rw[e];simp
   have n:=List.append_inj' o rfl;have p:j=x:=by simpa using n.2
   subst p;exact .inr ⟨f j (by simp),c,i,b,n.1,l,λm d=>f m (by simp[d])⟩
 .rintro(h | ⟨l,c,i,a,e,f,q⟩)
  .exact⟨is,j,[],rfl,h,(λZ h=>nomatch h)⟩
  .refine⟨c,i,a++[j],by rw[e];simp,f,λm d g=>?_⟩;rcases vh.mp d with z | z
   .exact q m z g
   .rw[vo.mp z];exact l g
def A8(h:∀j∈is,E.getD j []=E'.getD j []):eO E is k v->eO E' is k v:=by
 rintro⟨c,j,b,e,f,g⟩;refine⟨c,j,b,e,by rw[<-h j (by rw[e];simp)];exact f,λd a=>?_⟩;rw[<-h d (by rw[e];simp[a])];exact g d a
def cP.snoc{ls:L4}{ps:N1}(W:dC ls ps){E:L0}{p:Str×Fm}{e:Np}(h:cP ls ps E)(u:ps[⇑E]?=some p)(o:(e.map (·.1)).Pairwise (· < ·))
  (r:∀k v,(k,v)∈e↔iN ls ps E p.2 k v):cP ls ps (E++[e]):=λi q f g c=>by
 have t:i<=⇑E:=by
  have:=(vx.mp c).1;rw[vn]at this;exact Nat.le_of_lt_succ this
 have ext:∀j∈bY ps q.2,E.getD j []=(E++[e]).getD j []:=λj l=>(getD_snoc (by have:=W.cq g l;lia)).symm
 have d:∀k v,iN ls ps E q.2 k v↔iN ls ps (E++[e]) q.2 k v:=λk v=>by
  unfold iN;exact⟨λh=>h.imp (A8 ext) id,λh=>h.imp (A8 λj l=>(ext j l).symm) id⟩
 by_cases s:i<⇑E
 .rw[vB s]at c;let⟨a,b⟩:=h i q f g c;exact⟨a,λk v=>(b k v).trans (d k v)⟩
 .have n:i=⇑E:=⋯
  subst n;rw[vC (vb _),Nat.sub_self]at c;have m:e=f:=by simpa using c
  subst m;rw[u]at g;cases g;exact⟨o,λk v=>(r k v).trans (d k v)⟩
def BM{H:Hp}(h:bN H a f)(d:∀x v n,f≠.rise x v n):∃k xs,H a=some (.tup (.str k::xs))/\decide (k=("raise" : Str))=false:=by
 cases f with
 | hold n=>exact⟨_,_,h,by trivial⟩
 | ring x n=>exact⟨_,_,h,by trivial⟩
 | rise x v n=>exact uf rfl (d x v n)
 | row ps=>let⟨b,c,q⟩:=h;exact⟨_,_,c,by trivial⟩
 | side ps=>let⟨b,c,q⟩:=h;exact⟨_,_,c,by trivial⟩
 | again k x=>exact⟨_,_,h,by trivial⟩
noncomputable def ri(ls:L4):Fm->List (Int×Int)
 | .rise x h _=>[((cn (bF ls) x:Nat),h)]
 | _=>[]
def IC(a:∀x v n,f≠.rise x v n):ri ls f=[]:=by
 cases f with
 | rise x v n=>exact uf rfl (a x v n)
 | _=>rfl
def Xy:(k,v)∈ri ls f↔∃x n,f = .rise x v n/\k=(cn (bF ls) x:Nat):=by
 cases f with
 | rise x h n=>
  constructor
  .intro a;cases vo.mp a;exact⟨x,n,rfl,rfl⟩
  .rintro⟨c,b,e,rfl⟩;injection e with e1 e2 e3;subst e1 e2;exact vo.mpr rfl
 | _=>exact⟨(λh=>nomatch h),λ⟨_,_,e,_⟩=>nomatch e⟩
def I7(f:Fm):bY ps f=[]\/ri ls f=[]:=by
 cases f with
 | rise x h n=>exact .inl rfl
 | _=>exact .inr rfl
def I8(f:Fm):((ri ls f).map (·.1)).Nodup:=by
 cases f with
 | rise x h n=>exact pairwise_singleton _ _
 | _=>exact .nil
inductive dR(vs:N2)(H:Hp)(Q:VK)(xk:XK):Prop
 | mk (r l ll) (as las:L7) (M:L1):vs=[.int r,.ref l,.ref ll]->H l=some (.lst (as.map V.ref))->fk H as M->(∀ks∈M,ks≠[])->⇑M<=8->H ll=some (.lst (las.map V.ref))->(∀k:Int,⇑(M.filter λks=>decide (k∈ks))<=1)->(∀H',bI H H'->Q .cE H')->dR vs H Q xk
noncomputable def hH:Fm->L5->Int->Prop
 | .hold n,_,g=>g=n
 | .ring _ n,_,g=>g=n
 | .rise _ _ n,_,g=>g=n
 | .row _,gs,g=>g=gs.sum
 | .side _,gs,g=>g∈gs/\∀x∈gs,x<=g
 | .again k _,gs,g=>∃y,gs.head?=some y/\g=k*y
noncomputable def hI:Fm->L5->Prop
 | .side _,gs=>gs≠[]
 | .again k _,gs=>∃y r,gs=y::r/\0<=k/\k<=10^18/\0<=y/\y<=10^60
 | _,_=>True
inductive eB(vs:N2)(H:Hp)(Q:VK)(xk:XK):Prop
 | mk (a l f) (gs:L5):vs=[.ref a,.ref l]->bN H a f->H l=some (.lst (gs.map V.int))->hI f gs->(∀g,hH f gs g->Q (.int g) H)->eB vs H Q xk
structure nY(ls:L4)(ps:N1)(gs:L5)(hs:L1):Prop where
 w:dC ls ps
 gl:⇑gs=⇑ps
 gb:∀i,i<⇑ps->0<=gs.getD i 0/\gs.getD i 0<=10^60
 mv:∀M:L1,⇑M=⇑ps->dA ls ps M->∀i,i<⇑ps->M.getD i []=hs.getD i []
 ln:∀(i:Nat) (p:Str×Fm),ps[i]?=some p->hI p.2 ((bY ps p.2).map λj=>gs.getD j 0)/\∀g,hH p.2 ((bY ps p.2).map λj=>gs.getD j 0) g->g=gs.getD i 0
 sd:∀(i:Nat) (p:Str×Fm) (qs:L8),ps[i]?=some p->p.2 = .side qs->(∀j∈bY ps p.2,hs.getD j []≠[])/\∀k:Int,⇑(((bY ps p.2).map λj=>hs.getD j []).filter λks=>decide (k∈ks))<=1
inductive fM(vs:N2)(H:Hp)(Q:VK)(xk:XK):Prop
 | mk (b pl pp las pas ls ps) (gs:L5) (hs):vs=[.ref b]->cx H b pl pp las pas ls ps->nY ls ps gs hs->(∀(l:Addr) (H':Hp),bI H H'->H l=none->H' l=some (.lst (gs.map V.int))->Q (.ref l) H')->fM vs H Q xk
def any_empty{M:L1}(h:∀ks∈M,ks≠[]):(M.any λks=>decide (ks=[]))=false:=by
 simp_all
def Iy{gs:L5}{i:Nat}(h:i<⇑gs):gs.take (i+1)=gs.take i++[gs.getD i 0]:=by
 simp_all
def xc{gs:L5}{i j:Nat}(hi:i<=⇑gs)(a:j<i):d0 ((gs.take i).map V.int) (j:Int)=some (.int (gs.getD j 0)):=by
 refine jK ?_;rw[vv,List.getElem?_take,vd a,vy,vz ⋯];rfl
theorem Cn:∀{a b:Np},(a.map (·.1)).Pairwise (· < ·)->(b.map (·.1)).Pairwise (· < ·)->(∀k v,(k,v)∈a↔(k,v)∈b)->a=b
 | [],[],_,_,_=>rfl
 | [],y::s,_,_,h=>uf ((h y.1 y.2).mpr vq) (by simp)
 | x::r,[],_,_,h=>uf ((h x.1 x.2).mp vq) (by simp)
 | x::r,y::s,ha,hb,h=>by
  rw[v9,vV]at ha hb;have g:∀q∈r,x.1<q.1:=λq d=>ha.1 _ (vK.mpr ⟨q,d,rfl⟩)
  have i:∀q∈s,y.1<q.1:=λq d=>hb.1 _ (vK.mpr ⟨q,d,rfl⟩)
  have e:x=y:=by
   rcases mem_cons.mp ((h x.1 x.2).mp vq)with q | q
   .exact q
   .rcases mem_cons.mp ((h y.1 y.2).mpr vq)with f | f
    .exact f.symm
    .have j:=i _ q;have l:=g _ f;simp only at j l;lia
  subst e;rw[Cn ha.2 hb.2 λk v=>?_];constructor
  .intro c;rcases mem_cons.mp ((h k v).mp (vp _ c))with q | q
   .have:=g _ c;rw[<-q]at this;simp only at this;lia
   .exact q
  .intro c;rcases mem_cons.mp ((h k v).mpr (vp _ c))with q | q
   .have:=i _ c;rw[<-q]at this;simp only at this;lia
   .exact q
def Df{xs:N2}{k:Nat}:gh xs none (some (k:Int))=xs.take k:=by
 unfold gh;rw[show HT.de ⇑xs 0 none=0 from rfl,HT.X6,List.drop_zero,Nat.sub_zero,List.take_eq_take_iff];lia
def IF(W:dC ls ps)(m:⇑M=⇑ps)(h:dA ls ps M):∀(i:Nat),∀k∈M.getD i [],0<=k/\k<(⇑ls:Int):=by
 intro i
 induction i using Nat.strongRecOn with
 | ind i ih=>
  intro k d;rw[vy]at d;cases e:M[i]? with
  | none=>simp_all
  | some ks=>
   rw[e]at d;have l:=(vx.mp e).1;have c:ps[i]?=some ps[i]:=vz ⋯;let⟨q,b⟩:=h i _ ks c e;rcases(b k).mp d with⟨j,a,f⟩ | ⟨x,v,n,g,rfl⟩
   .exact ih j (W.cq c a) k f
   .let⟨j,a⟩:=W.r i (ps[i]).1 x v n (by rw[c,<-g]);rw[j2 W.ln a];have:=(vx.mp a).1;unfold bF at this
    simp_all
def BY{ls:L4}{ps:N1}(W:dC ls ps){M:L1}(d:⇑M=⇑ps)(h:dA ls ps M){i:Nat}{ks:L5}(c:M[i]?=some ks):⇑ks<=8:=by
 have hi:=(vx.mp c).1;have a:=(h i _ ks (vz ⋯) c).1;have b:=IF W d h i;rw[vy,c]at b;have z:=KG (ks:=ks) (lo:=0) (hi:=⇑ls) a b;have:=W.l8;lia
def bN.keep{H H':Hp}(k:∀c xs,H c=some (.tup xs)->H' c=some (.tup xs))(h:bN H a f):bN H' a f:=by
 cases f with
 | row ps=>let⟨c,b,d⟩:=h;exact⟨c,k _ _ b,k _ _ d⟩
 | side ps=>let⟨c,b,d⟩:=h;exact⟨c,k _ _ b,k _ _ d⟩
 | hold n=>exact k _ _ h
 | ring x n=>exact k _ _ h
 | rise x g n=>exact k _ _ h
 | again x n=>exact k _ _ h
def cJ.keep{H H':Hp}(k:∀c xs,H c=some (.tup xs)->H' c=some (.tup xs))(h:cJ H a p):cJ H' a p:=by
 let⟨b,d,e⟩:=h;exact⟨b,k _ _ d,bN.keep k e⟩
def GD(a:0<=i)(h:xs[i.toNat]?=some c):d0 xs i=some c:=by
 have q:∀k:Nat,xs[k]?=some c->d0 xs (k:Int)=some c:=λk d=>by
  let⟨b,rfl⟩:=vx.mp d;unfold d0 lK;simp[b]
 have:=q i.toNat h;rw[Int.toNat_of_nonneg a]at this;exact this
def D9{n:Nat}{k:Int}(a:0<=k)(c:k<n):lK n k=some k.toNat:=by
 have b:∀j:Nat,j<n->lK n (j:Int)=some j:=λj h=>by
  unfold lK;simp[h]
 have q:=b k.toNat ⋯;rw[Int.toNat_of_nonneg a]at q;exact q
noncomputable abbrev Pc:=Nat×Int×Int
noncomputable abbrev mF:=Nat×Int×Int×Option Int
noncomputable def cu(gs:L5):L6->Int->List Pc
 | [],_=>[]
 | j::r,b=>(j,1,b)::cu gs r (b+gs.getD j 0)
noncomputable def dt(gs:L5)(f:Fm)(is:L6):List Pc:=
 match f with
 | .again k _=>match is with
  | []=>[]
  | j::_=>(j,1,0)::(if 1<k then[(j,k-1,gs.getD j 0)]else[])
 | .row _=>cu gs is 0
 | _=>is.map λj=>(j,1,0)
def gO(H:Hp)(as:L7)(qs:List Pc):Prop:=bL (λa q=>H a=some (.tup [.int (q.1:Nat),.int q.2.1,.int q.2.2])) as qs
def nv(H:Hp)(as:L7)(qss:List (List Pc)):Prop:=bL (λa qs=>∃bs,H a=some (.lst (bs.map V.ref))/\gO H bs qs) as qss
inductive eC(vs:N2)(H:Hp)(Q:VK)(xk:XK):Prop
 | mk (a l s f) (is:L6) (gs:L5):vs=[.ref a,.ref l,.ref s]->bN H a f->(H l=some (.lst ((is.map λj:Nat=>(j:Int)).map V.int)))->H s=some (.lst (gs.map V.int))->⇑is<=8->(∀j∈is,j<⇑gs)->(∀k x,f = .again k x->is≠[])->(∀(p:Addr) (as:L7) (H':Hp),bI H H'->H p=none->H' p=some (.lst (as.map V.ref))->gO H' as (dt gs f is)->Q (.ref p) H')->eC vs H Q xk
inductive eD(vs:N2)(H:Hp)(Q:VK)(xk:XK):Prop
 | mk (b pl pp s las pas ls) (ps:N1) (gs:L5):vs=[.ref b,.ref s]->cx H b pl pp las pas ls ps->dC ls ps->H s=some (.lst (gs.map V.int))->⇑gs=⇑ps->(∀(l:Addr) (as:L7) (H':Hp),bI H H'->H l=none->H' l=some (.lst (as.map V.ref))->nv H' as (ps.map λp=>dt gs p.2 (bY ps p.2))->(∀a∈as,H a=none)->Q (.ref l) H')->eD vs H Q xk
noncomputable def ov(gs:L5)(t:Int)(q:Pc):Int:=if q.2.1<(t-q.2.2)/gs.getD q.1 0 then q.2.1 else(t-q.2.2)/gs.getD q.1 0
noncomputable def cm(gs:L5)(t:Int)(q:Pc):Option mF:=
 if q.2.2<=t then some (q.1,q.2.2,ov gs t q,if ov gs t q<q.2.1 then some (t-q.2.2-ov gs t q*gs.getD q.1 0)else none)else none
noncomputable def cU(gs:L5)(t:Int)(qs:List Pc):List mF:=qs.filterMap (cm gs t)
noncomputable def oB:Option Int->V
 | none=>.cE
 | some r=>.int r
def nj(H:Hp)(as:L7)(ys:List mF):Prop:=bL (λa y=>H a=some (.tup [.int (y.1:Nat),.int y.2.1,.int y.2.2.1,oB y.2.2.2])) as ys
def mE(gs:L5)(q:Pc):Prop:=q.1<⇑gs/\1<=gs.getD q.1 0/\gs.getD q.1 0<=10^60/\1<=q.2.1/\q.2.1<=10^18/\0<=q.2.2/\q.2.2<=10^62
inductive dP(vs:N2)(H:Hp)(Q:VK)(xk:XK):Prop
 | mk (l s t) (bs:L7) (qs:List Pc) (gs:L5):vs=[.ref l,.ref s,.int t]->H l=some (.lst (bs.map V.ref))->gO H bs qs->H s=some (.lst (gs.map V.int))->⇑qs<=8->(∀q∈qs,mE gs q)->0<=t->t<=10^62->(∀(p:Addr) (as:L7) (H':Hp),bI H H'->H p=none->H' p=some (.lst (as.map V.ref))->nj H' as (cU gs t qs)->Q (.ref p) H')->dP vs H Q xk
def eM(H:Hp)(as:L7)(xs:L3):Prop:=bL (λa x=>H a=some (.tup [.int (x.1:Nat),.int x.2])) as xs
noncomputable def df(gs:L5)(y:mF):L3:=(if 0<y.2.2.1 then[(y.1,gs.getD y.1 0)]else[])++(match y.2.2.2 with | some r=>[(y.1,r)] | none=>[])
noncomputable def du(gs:L5)(t:Int)(qs:List Pc):L3:=(cU gs t qs).flatMap (df gs)
inductive gM(vs:N2)(H:Hp)(Q:VK)(xk:XK):Prop
 | mk (l s t) (bs:L7) (qs:List Pc) (gs:L5):vs=[.ref l,.ref s,.int t]->H l=some (.lst (bs.map V.ref))->gO H bs qs->H s=some (.lst (gs.map V.int))->⇑qs<=8->(∀q∈qs,mE gs q)->0<=t->t<=10^62->(∀(p:Addr) (as:L7) (H':Hp),bI H H'->H p=none->H' p=some (.lst (as.map V.ref))->eM H' as (du gs t qs)->Q (.ref p) H')->gM vs H Q xk
noncomputable def fL(pc:Nat->List Pc)(gs:L5):Nat->Nat->Int->L3
 | 0,i,t=>[(i,t)]
 | n+1,i,t=>if gs.getD i 0<=t\/pc i=[]then[(i,t)]else(du gs t (pc i)).flatMap λx=>fL pc gs n x.1 x.2
noncomputable def eW(pc:Nat->List Pc)(gs:L5):Nat->Nat->Int->Nat
 | 0,_,_=>1
 | n+1,i,t=>if gs.getD i 0<=t\/pc i=[]then 1 else 1+((du gs t (pc i)).map λx=>eW pc gs n x.1 x.2).sum
noncomputable def bZ(ps:N1)(gs:L5)(i:Nat):List Pc:=match ps[i]? with | some p=>dt gs p.2 (bY ps p.2) | none=>[]
section
variable{gs:L5}{t:Int}
def KH(h:q∈cu gs is b):q.1∈is/\q.2.1=1:=by
 induction is generalizing b with
 | nil=>exact nomatch h
 | cons j r ih=>
  rcases mem_cons.mp h with rfl | h
  .exact⟨vq,rfl⟩
  .let⟨a,b⟩:=ih h;exact⟨vp _ a,b⟩
def FY(is:L6)(b:Int):⇑(cu gs is b)=⇑is:=by
 induction is generalizing b with
 | nil=>rfl
 | cons j r ih=>rw[cu,vQ,vQ,ih]
def Q6(d:∀j∈is,0<=gs.getD j 0/\gs.getD j 0<=10^60)(h:q∈cu gs is b):b<=q.2.2/\q.2.2<=b+10^60*⇑is:=by
 induction is generalizing b with
 | nil=>exact nomatch h
 | cons j r ih=>
  have g:=d j vq;rw[vQ];rcases mem_cons.mp h with rfl | h
  .have:(0:Int)<=10^60*((⇑r+1:Nat):Int):=Int.mul_nonneg nofun ⋯;exact⟨vA _,by show b<=_;lia⟩
  .let⟨a,c⟩:=ih (λk e=>d k (vp _ e)) h;refine⟨⋯,?_⟩;rw[show((⇑r+1:Nat):Int)=(⇑r:Int)+1 by lia,Int.mul_add];lia
def kJ(h:q∈dt gs f is):q.1∈is:=by
 unfold dt at h;split at h
 .split at h
  .exact nomatch h
  .rcases mem_cons.mp h with rfl | h
   .exact vq
   .split at h
    .rw[vo.mp h];exact vq
    .exact nomatch h
 .exact(KH h).1
 .let⟨j,a,rfl⟩:=vK.mp h;exact a
def Bb(a:⇑is<=8):⇑(dt gs f is)<=8:=by
 unfold dt;split
 .split
  .exact va _
  .split<;>simp
 .rw[FY];exact a
 simp_all
def kK(h:y∈cU gs t qs):∃q∈qs,cm gs t q=some y:=List.mem_filterMap.mp h
def CJ(qs:List Pc):⇑(cU gs t qs)<=⇑qs:=List.length_filterMap_le _ _
def ZN(h:cm gs t q=some y):y.1=q.1:=by
 unfold cm at h;split at h
 .cases h;rfl
 .cases h
def Xz(h:x∈du gs t qs):∃q∈qs,x.1=q.1:=by
 let⟨y,c,a⟩:=mem_flatMap.mp h;let⟨q,b,e⟩:=kK c;refine⟨q,b,?_⟩;rw[<-ZN e];unfold df at a;rcases vh.mp a with z | z
 .split at z
  .rw[vo.mp z]
  .exact nomatch z
 .split at z
  .rw[vo.mp z]
  .exact nomatch z
def Gr(y:mF):⇑(df gs y)<=2:=by
 unfold df;rw[vn];have a:⇑(if 0<y.2.2.1 then[(y.1,gs.getD y.1 0)]else[])<=1:=by split<;>simp
 have b:⇑(match y.2.2.2 with | some r=>[(y.1,r)] | none=>[]:L3)<=1:=by split<;>simp
 lia
def IE(qs:List Pc):⇑(du gs t qs)<=2*⇑qs:=by
 have h:∀a:List mF,⇑(a.flatMap (df gs))<=2*⇑a:=λa=>by
  induction a with
  | nil=>exact va _
  | cons y r ih=>
   rw[flatMap_cons,vn,vQ];have:=Gr (gs:=gs) y;lia
 have:=h (cU gs t qs);have:=CJ (gs:=gs) (t:=t) qs;unfold du;lia
end
section
variable{ls:L4}{ps:N1}{gs:L5}
def XU(W:dC ls ps)(h:q∈bZ ps gs i):q.1<i:=by
 unfold bZ at h;split at h
 .rename_i p hp;exact W.cq hp (kJ h)
 .exact nomatch h
def QD(W:dC ls ps)(h:x∈du gs t (bZ ps gs i)):x.1<i:=by
 let⟨q,a,e⟩:=Xz h;rw[e];exact XU W a
theorem qW{a c:Type}{f g:a->List c}:∀{l:List a},(∀x∈l,f x=g x)->l.flatMap f=l.flatMap g
 | [],_=>rfl
 | x::r,h=>by rw[flatMap_cons,flatMap_cons,h x vq,qW λy b=>h y (vp _ b)]
theorem Wk(W:dC ls ps):∀{n m i:Nat} {t:Int},i<n->i<m->fL (bZ ps gs) gs n i t=fL (bZ ps gs) gs m i t
 | 0,_,_,_,h,_=>uf h (Nat.not_lt_zero _)
 | _,0,_,_,_,h=>uf h (Nat.not_lt_zero _)
 | n+1,m+1,i,t,h1,h2=>by
  unfold fL;split
  .rfl
  .exact qW λx a=>by
    have:=QD W a;exact Wk W ⋯ ⋯
theorem Wb(W:dC ls ps):∀{n m i:Nat} {t:Int},i<n->i<m->eW (bZ ps gs) gs n i t=eW (bZ ps gs) gs m i t
 | 0,_,_,_,h,_=>uf h (Nat.not_lt_zero _)
 | _,0,_,_,_,h=>uf h (Nat.not_lt_zero _)
 | n+1,m+1,i,t,h1,h2=>by
  unfold eW;split
  .rfl
  .congr 2;exact map_congr_left λx a=>by
    have:=QD W a;exact Wb W ⋯ ⋯
noncomputable def reach(ps:N1)(gs:L5)(i:Nat)(t:Int):L3:=fL (bZ ps gs) gs (i+1) i t
noncomputable def nodes(ps:N1)(gs:L5)(i:Nat)(t:Int):Nat:=eW (bZ ps gs) gs (i+1) i t
def j4(h:gs.getD i 0<=t\/bZ ps gs i=[]):reach ps gs i t=[(i,t)]:=by
 unfold reach fL;rw[vd h]
def Jv(W:dC ls ps)(h:¬(gs.getD i 0<=t\/bZ ps gs i=[])):reach ps gs i t=(du gs t (bZ ps gs i)).flatMap λx=>reach ps gs x.1 x.2:=by
 unfold reach;rw[fL,vc h];exact qW λx a=>by
  have:=QD W a;exact Wk W ⋯ ⋯
def ye(h:gs.getD i 0<=t\/bZ ps gs i=[]):nodes ps gs i t=1:=by
 unfold nodes eW;rw[vd h]
def Y6(W:dC ls ps)(h:¬(gs.getD i 0<=t\/bZ ps gs i=[])):nodes ps gs i t=1+((du gs t (bZ ps gs i)).map λx=>nodes ps gs x.1 x.2).sum:=by
 unfold nodes;rw[eW,vc h];congr 2;exact map_congr_left λx a=>by
  have:=QD W a;exact Wb W ⋯ ⋯
def xr(i:Nat)(t:Int):1<=nodes ps gs i t:=by
 unfold nodes eW;split<;>lia
end
section
variable{gs:L5}{t:Int}
noncomputable def wq(gs:L5)(t:Int)(q:Pc):L3:=match cm gs t q with | some y=>df gs y | none=>[]
def CU:du gs t []=[]:=rfl
def zV(q:Pc)(qs:List Pc):du gs t (q::qs)=wq gs t q++du gs t qs:=by
 unfold du cU wq;rw[filterMap_cons];cases cm gs t q with
 | none=>rfl
 | some y=>rfl
def Lp(h:t<q.2.2):wq gs t q=[]:=by
 unfold wq cm;rw[vc ⋯]
def ur(d:1<=gs.getD j 0)(h:b<=t):wq gs t (j,1,b)=if gs.getD j 0<=t-b then[(j,gs.getD j 0)]else[(j,t-b)]:=by
 have c:wq gs t (j,1,b)=df gs (j,b,ov gs t (j,1,b),if ov gs t (j,1,b)<1 then some (t-b-ov gs t (j,1,b)*gs.getD j 0)else none):=by
  unfold wq cm;rw[vd (show b<=t from h)]
 rw[c];generalize a:gs.getD j 0=g at d|-;have e:ov gs t (j,1,b)=if g<=t-b then 1 else 0:=by
  show(if(1:Int)<(t-b)/gs.getD j 0 then(1:Int)else(t-b)/gs.getD j 0)=_;rw[a];by_cases z:g<=t-b
  .rw[vd z];have:1<=(t-b)/g:=by
    rw[Int.le_ediv_iff_mul_le ⋯];lia
   split<;>lia
  .rw[vc z];have:(t-b)/g=0:=Int.ediv_eq_zero_of_lt ⋯ ⋯;rw[this];rfl
 by_cases z:g<=t-b
 .rw[vd z]at e;rw[vd z,e];unfold df
  simp_all
 .rw[vc z]at e;rw[vc z,e];unfold df;simp
def CQ(h:q.2.2<=t):wq gs t q=(if 0<ov gs t q then[(q.1,gs.getD q.1 0)]else[])++(if ov gs t q<q.2.1 then[(q.1,t-q.2.2-ov gs t q*gs.getD q.1 0)]else[]):=by
 unfold wq cm;rw[vd h];show df gs _=_;unfold df;congr 1;show(match(if ov gs t q<q.2.1 then some (t-q.2.2-ov gs t q*gs.getD q.1 0)else none)with | some r=>[(q.1,r)] | none=>[])=_;split<;>rename_i e<;>split at e
 .cases e;rw[vd (by assumption)]
 .cases e
 .cases e
 .rw[vc (by assumption)]
theorem Ka:∀{qs:List Pc},(∀q∈qs,t<q.2.2)->du gs t qs=[]
 | [],_=>rfl
 | q::r,h=>by rw[zV,Lp (h q vq),Ka λq a=>h q (vp _ a)];rfl
def Wm(a:∀j∈is,0<=gs.getD j 0/\gs.getD j 0<=10^60)(h:t<b):du gs t (cu gs is b)=[]:=
 Ka λq c=>by have:=(Q6 a c).1;lia
def Bp(a:∀k∈j::r,1<=gs.getD k 0/\gs.getD k 0<=10^60)(h:b<=t):du gs t (cu gs (j::r) b)=if gs.getD j 0<=t-b then(j,gs.getD j 0)::du gs t (cu gs r (b+gs.getD j 0))else[(j,t-b)]:=by
 have g:=a j vq;rw[cu,zV,ur g.1 h];split
 .rfl
 .rw[Wm (λk c=>by have:=a k (vp _ c);lia) ⋯];rfl
theorem AA{a:Type}{f g:a->Nat}:∀{l:List a},(∀x∈l,f x<=g x)->(l.map f).sum<=(l.map g).sum
 | [],_=>vb _
 | x::r,h=>by
  rw[v9,v9,uz,uz];have:=h x vq;have:=AA (l:=r) λy b=>h y (vp _ b)
  lia
theorem Ce{N:Nat×Int->Nat}:∀{is:L6} {b:Int},(∀k∈is,1<=gs.getD k 0/\gs.getD k 0<=10^60)->(∀k∈is,N (k,gs.getD k 0)=1)->(∀k∈is,∀r,0<=r->N (k,r)<=B)->((du gs t (cu gs is b)).map N).sum<=⇑is+B
 | [],b,_,_,_=>va _
 | j::r,b,hg,h1,h2=>by
  by_cases h:b<=t
  .rw[Bp hg h];split
   .rw[v9,uz,h1 j vq,vQ];have:=Ce (N:=N) (B:=B) (is:=r) (b:=b+gs.getD j 0) (λk a=>hg k (vp _ a)) (λk a=>h1 k (vp _ a)) λk a=>h2 k (vp _ a)
    lia
   .have:=h2 j vq (t-b) ⋯;simp;lia
  .rw[Wm (λk a=>by have:=hg k a;lia) ⋯];exact va _
def Wt{is:L6}(a:∀k∈is,1<=gs.getD k 0)(c:0<=t):du gs t (is.map λj=>(j,1,0))=is.map λj=>if gs.getD j 0<=t then(j,gs.getD j 0)else(j,t):=by
 induction is with
 | nil=>rfl
 | cons j r ih=>
  rw[v9,zV,ur (a j vq) c,ih λk b=>a k (vp _ b),v9,Int.sub_zero];split<;>rfl
def Fz{N:Nat×Int->Nat}(l:1<=gs.getD j 0)(f:0<=t)(b:N (j,gs.getD j 0)=1)(d:∀r,0<=r->N (j,r)<=B) :
  ((du gs t ((j,1,0)::(if 1<k then[(j,k-1,gs.getD j 0)]else[]))).map N).sum<=2+B:=by
 rw[zV,ur l f,Int.sub_zero,vj,sum_append];by_cases z:gs.getD j 0<=t
 .rw[vd z];have a:((du gs t (if 1<k then[(j,k-1,gs.getD j 0)]else[])).map N).sum<=1+B:=by
   split
   .rw[zV,CU,append_nil,CQ (show gs.getD j 0<=t from z),vj,sum_append];have g:(((if 0<ov gs t (j,k-1,gs.getD j 0)then[(j,gs.getD j 0)]else[]):L3).map N).sum<=1:=by
     split
     .simp;rw[<-vy,b];exact vb _
     .simp
    have h:(((if ov gs t (j,k-1,gs.getD j 0)<k-1 then[(j,t-gs.getD j 0-ov gs t (j,k-1,gs.getD j 0)*gs.getD j 0)]else[]):L3).map N).sum<=B:=by
     split
     .have m:ov gs t (j,k-1,gs.getD j 0)=(t-gs.getD j 0)/gs.getD j 0:=by
       show(if k-1<(t-gs.getD j 0)/gs.getD j 0 then k-1 else(t-gs.getD j 0)/gs.getD j 0)=_;rename_i c;have i:(if k-1<(t-gs.getD j 0)/gs.getD j 0 then k-1 else(t-gs.getD j 0)/gs.getD j 0)<k-1:=c;split at i
       .lia
       .rename_i z;rw[vc z]
      have:=d (t-gs.getD j 0-ov gs t (j,k-1,gs.getD j 0)*gs.getD j 0) (by
       rw[m];have:=Int.ediv_mul_le (t-gs.getD j 0) (show gs.getD j 0≠0 by lia);lia)
      simp;exact this
     .simp
    have o:((if 0<ov gs t (j,k-1,gs.getD j 0)then[((j,k-1,gs.getD j 0):Pc).1].map λa=>(a,gs.getD a 0)else[]):L3)=if 0<ov gs t (j,k-1,gs.getD j 0)then[(j,gs.getD j 0)]else[]:=rfl
    exact Nat.add_le_add g h
   .exact va _
  have:(([(j,gs.getD j 0)]:L3).map N).sum=1:=by
   simp;rw[<-vy,b]
  lia
 .rw[vc z];have e:du gs t (if 1<k then[(j,k-1,gs.getD j 0)]else[])=[]:=by
   split
   .exact Ka λq n=>by rw[vo.mp n];show t<gs.getD j 0;lia
   .rfl
  rw[e];have:=d t f;simp;lia
end
def len_sub{a b:L5}(c:a.Nodup)(f:∀x∈a,x∈b):⇑a<=⇑b:=by
 induction a generalizing b with
 | nil=>exact va _
 | cons x r ih=>
  rw[uo]at c;have g:=f x vq;have:=ih (b:=b.erase x) c.2 λy h=>by
   have d:y≠x:=λe=>c.1 (e▸h)
   exact(List.mem_erase_of_ne d).mpr (f y (vp _ h))
  rw[List.length_erase_of_mem g]at this;have:0<⇑b:=length_pos_of_mem g;rw[vQ];lia
section
variable{ls:L4}{ps:N1}{gs:L5}{hs:L1}
def YV(S:nY ls ps gs hs)(a:⇑hs=⇑ps)(hi:i<⇑ps):hs[i]?=some (hs.getD i []):=by
 simp_all
def Ki(S:nY ls ps gs hs)(e:⇑hs=⇑ps)(M:dA ls ps hs){i:Nat}{p:Str×Fm}(c:ps[i]?=some p){j:Nat}(d:j∈bY ps p.2):⇑(hs.getD j [])<=⇑(hs.getD i []):=by
 have f:=(vx.mp c).1;have l:=S.w.cq c d;let⟨q,b⟩:=M i p _ c (YV S e f);let⟨a,q⟩:=M j _ _ (vz (show j<⇑ps by lia)) (YV S e ⋯);exact len_sub (a.imp λh=>⋯) λk g=>(b k).mpr (.inl ⟨j,d,g⟩)
def GW(S:nY ls ps gs hs)(v:⇑hs=⇑ps)(M:dA ls ps hs){i:Nat}{p:Str×Fm}{qs:L8}(f:ps[i]?=some p)(e:p.2 = .side qs):((bY ps p.2).map λj=>⇑(hs.getD j [])).sum<=⇑(hs.getD i []):=by
 have z:=(vx.mp f).1;let⟨Z,t⟩:=S.sd i p qs f e;let⟨Z,b⟩:=M i p _ f (YV S v z);have B:=λj=>S.w.cq (j:=j) f
 have C:∀d:L6,(∀j∈d,j<⇑ps)->(∀k:Int,⇑((d.map λj=>hs.getD j []).filter λs=>decide (k∈s))<=1)->(d.flatMap λj=>hs.getD j []).Nodup:=λd=>by
  induction d with
  | nil=>exact λZ Z=>.nil
  | cons j r ih=>
   intro l u;rw[flatMap_cons];have D:(hs.getD j []).Nodup:=by
    let⟨a,Z⟩:=M j _ _ (vz (l j vq)) (YV S v (l j vq));exact a.imp λh=>⋯
   refine nodup_append.mpr ⟨D,ih (λk c=>l k (vp _ c)) λk=>?_,λa x b y g=>?_⟩
   .have:=u k;rw[v9,v8]at this;split at this
    .rw[vQ]at this;lia
    .exact this
   .subst g;let⟨A,o,q⟩:=mem_flatMap.mp y;have:=u a;rw[v9,v8,vd (vG x),vQ]at this;have E:0<⇑((r.map λj=>hs.getD j []).filter λs=>decide (a∈s)):=length_pos_of_mem (vP.mpr ⟨vK.mpr ⟨A,o,rfl⟩,vG q⟩);lia
 have n:=C (bY ps p.2) (λj m=>by have:=B j m;lia) t;have w:=len_sub (b:=hs.getD i []) n λk c=>by
  let⟨j,m,c⟩:=mem_flatMap.mp c;exact(b k).mpr (.inl ⟨j,m,c⟩)
 rw[List.length_flatMap]at w;exact w
theorem Ck{a:Type}{f:a->Nat}:∀{l:List a},(l.map λx=>c*f x).sum=c*(l.map f).sum
 | []=>rfl
 | x::r=>by rw[v9,v9,uz,uz,Ck,Nat.mul_add]
def GK(S:nY ls ps gs hs)(A:⇑hs=⇑ps)(M:dA ls ps hs)(G:∀i,i<⇑ps->1<=gs.getD i 0):∀i t,i<⇑ps->0<=t->nodes ps gs i t<=9*(i+1)*max 1 ⇑(hs.getD i []):=by
 intro i
 induction i using Nat.strongRecOn with
 | ind i ih=>
  intro t H z;have W:=S.w;have C:1<=max 1 ⇑(hs.getD i []):=Nat.le_max_left _ _;by_cases a:gs.getD i 0<=t\/bZ ps gs i=[]
  .rw[ye a];have:1*1<=9*(i+1)*max 1 ⇑(hs.getD i []):=Nat.mul_le_mul ⋯ C;lia
  rw[Y6 W a];obtain⟨p,o⟩:∃p,ps[i]?=some p:=⟨_,vz H⟩
  have c:bZ ps gs i=dt gs p.2 (bY ps p.2):=by unfold bZ;rw[o]
  have q:=λj=>W.cq (j:=j) o
  have h:∀k∈bY ps p.2,1<=gs.getD k 0/\gs.getD k 0<=10^60:=λk m=>by
   have:=q k m;exact⟨G k ⋯,(S.gb k ⋯).2⟩
  have I:⇑(bY ps p.2)<=8:=by unfold bY;rw[vt];exact(W.f i p o).2
  have b:∀k∈bY ps p.2,nodes ps gs k (gs.getD k 0)=1:=λk Z=>ye (.inl (vA _))
  have u:∀k∈bY ps p.2,∀r,0<=r->nodes ps gs k r<=9*i*max 1 ⇑(hs.getD i []):=λk m r y=>by
   have l:=q k m;have:=ih k l r ⋯ y;have s:=Ki S A M o m;refine vW this (Nat.mul_le_mul ⋯ ?_);exact Nat.max_le.mpr ⟨Nat.le_max_left _ _,vW s (Nat.le_max_right _ _)⟩
  have f:∀X:Nat,X<=8+9*i*max 1 ⇑(hs.getD i [])->1+X<=9*(i+1)*max 1 ⇑(hs.getD i []):=λX K=>by
   rw[Nat.mul_add,Nat.add_mul];have:9*1*1<=9*1*max 1 ⇑(hs.getD i []):=Nat.mul_le_mul (vb _) C;lia
  rw[c];cases e:p.2 with
  | again k x=>
   have d:bY ps p.2=[cn (bF ps) x]:=by rw[e];rfl
   rw[e]at d;rw[d];have g:cn (bF ps) x∈bY ps p.2:=by rw[e,d];exact vq
   refine f _ (vW (Fz (N:=λx=>nodes ps gs x.1 x.2) (h _ g).1 z (b _ g) (u _ g)) ⋯)
  | row xs=>
   rw[e]at h b u I;exact f _ (vW (Ce (N:=λx=>nodes ps gs x.1 x.2) h b u) ⋯)
  | side xs=>
   have F:=GW S A M o e;let⟨E,Z⟩:=S.sd i p xs o e;rw[show dt gs (.side xs) (bY ps (.side xs))=(bY ps (.side xs)).map λj=>(j,1,0)from rfl];rw[e]at h b F E q;rw[Wt (λk m=>(h k m).1) z,v6];have B:((bY ps (.side xs)).map (Function.comp (λx=>nodes ps gs x.1 x.2) λj=>if gs.getD j 0<=t then(j,gs.getD j 0)else(j,t))).sum<=((bY ps (.side xs)).map λj=>9*i*⇑(hs.getD j [])).sum:=by
    refine AA λj w=>?_
    have l:=q j w;have J:1<=⇑(hs.getD j []):=length_pos_iff.mpr (E j w);have D:∀r,0<=r->nodes ps gs j r<=9*i*⇑(hs.getD j []):=λr y=>by
     have:=ih j l r ⋯ y;rw[Nat.max_eq_right J]at this;exact vW this (Nat.mul_le_mul ⋯ (vb _))
    show nodes ps gs (if gs.getD j 0<=t then(j,gs.getD j 0)else(j,t)).1 (if gs.getD j 0<=t then(j,gs.getD j 0)else(j,t)).2<=_;split
    .exact D _ (by have:=h j w;lia)
    .exact D _ z
   rw[Ck]at B;refine f _ (vW B (vW (Nat.mul_le_mul (vb (9*i)) (vW F (Nat.le_max_right 1 _))) (Nat.le_add_left _ _)))
  | hold n=>
   exact uf (.inr (by rw[c,e];rfl)) a
  | ring x n=>
   exact uf (.inr (by rw[c,e];rfl)) a
  | rise x v n=>
   exact uf (.inr (by rw[c,e];rfl)) a
end
structure Sn(ls:L4)(ps:N1)(gs:L5)(hs:L1):Prop where
 s:nY ls ps gs hs
 hl:⇑hs=⇑ps
 m:dA ls ps hs
 g1:∀i,i<⇑ps->1<=gs.getD i 0
 ne:1<=⇑ps
 uD:∀q∈ls,0<=q.2/\q.2<=10^18
 sU:∀(i:Nat) (y x:Str) (v n:Int),ps[i]?=some (y,.rise x v n)->0<=v/\v<=10^18/\1<=n/\n<=10^18
 uV:∀(i:Nat) (y x:Str) (k:Int),ps[i]?=some (y,.again k x)->1<=k/\k<=10^18
section
variable{ls:L4}{ps:N1}{gs:L5}{hs:L1}
def Sn.g(N:Sn ls ps gs hs)(hi:i<⇑ps):1<=gs.getD i 0/\gs.getD i 0<=10^60:=⟨N.g1 i hi,(N.s.gb i hi).2⟩
def Sn.xc(N:Sn ls ps gs hs){i:Nat}(hi:i<⇑ps):gs[i]?=some (gs.getD i 0):=by
 rw[vy,vz (by rw[N.s.gl];exact hi)];rfl
def Sn.i8(N:Sn ls ps gs hs){i:Nat}{p:Str×Fm}(a:ps[i]?=some p):⇑(bY ps p.2)<=8:=by
 unfold bY;rw[vt];exact(N.s.w.f i p a).2
def Sn.mP(N:Sn ls ps gs hs){i:Nat}{q:Pc}(h:q∈bZ ps gs i):mE gs q:=by
 have u:=XU N.s.w h;have n:=h;unfold bZ at h;split at h
 case h_2=>exact nomatch h
 rename_i p hp;have o:=(vx.mp hp).1;have g:=N.g (show q.1<⇑ps by lia);have t:=N.i8 hp;have a:∀k∈bY ps p.2,0<=gs.getD k 0/\gs.getD k 0<=10^60:=λk d=>by
  have:=N.s.w.cq hp d;have:=N.g (show k<⇑ps by lia);lia
 refine⟨by rw[N.s.gl];lia,g.1,g.2,?_⟩;unfold dt at h;split at h
 .rename_i k x e;have f:=N.uV i p.1 x k (by rw[hp,<-e]);split at h
  .exact nomatch h
  .rename_i j r ein;have c:=a j (by rw[ein];exact vq);rcases mem_cons.mp h with rfl | h
   .exact⟨(by show(1:Int)<=1;decide),(by show(1:Int)<=10^18;decide),(by show(0:Int)<=0;decide),(by show(0:Int)<=10^62;decide)⟩
   .split at h
    .rw[vo.mp h];refine⟨?_,?_,c.1,?_⟩
     .show 1<=k-1;lia
     .show k-1<=_;lia
     .show gs.getD j 0<=_;lia
    .exact nomatch h
 .let⟨b,l⟩:=Q6 a h;have m:=(KH h).2;refine⟨⋯,⋯,b,?_⟩;have:(10:Int)^60*(⇑(bY ps p.2):Int)<=10^60*8:=Int.mul_le_mul_of_nonneg_left ⋯ nofun;lia
 .let⟨j,s,rfl⟩:=vK.mp h;exact⟨(by show(1:Int)<=1;decide),(by show(1:Int)<=10^18;decide),(by show(0:Int)<=0;decide),(by show(0:Int)<=10^62;decide)⟩
def DG(c:mE gs q)(h:q.2.2<=t):0<=ov gs t q/\ov gs t q<=q.2.1/\ov gs t q*gs.getD q.1 0<=t-q.2.2/\0<=ov gs t q*gs.getD q.1 0:=by
 let⟨j,e,j,f,j,j⟩:=c;have d:0<=(t-q.2.2)/gs.getD q.1 0:=Int.ediv_nonneg ⋯ ⋯;have b:=Int.ediv_mul_le (t-q.2.2) (show gs.getD q.1 0≠0 by lia);have a:0<=ov gs t q/\ov gs t q<=q.2.1/\ov gs t q<=(t-q.2.2)/gs.getD q.1 0:=by
  unfold ov;split<;>lia
 refine⟨a.1,a.2.1,?_,Int.mul_nonneg a.1 ⋯⟩;exact Int.le_trans (Int.mul_le_mul_of_nonneg_right a.2.2 ⋯) b
def Wy(j:∀q∈qs,mE gs q)(h:x∈du gs t qs):0<=x.2:=by
 let⟨y,i,d⟩:=mem_flatMap.mp h;let⟨q,g,e⟩:=kK i;have o:=j q g;by_cases c:q.2.2<=t
 case neg=>unfold cm at e;rw[vc c]at e;cases e
 have b:=DG o c;unfold cm at e;rw[vd c]at e;have f:=vL e;subst f;unfold df at d;rcases vh.mp d with z | z
 .have z:x∈(if 0<ov gs t q then[(q.1,gs.getD q.1 0)]else[]):=z;split at z
  .rw[vo.mp z];exact Int.le_trans nofun o.2.1
  .exact nomatch z
 .split at z
  .rename_i r a;rw[vo.mp z];have a:(if ov gs t q<q.2.1 then some (t-q.2.2-ov gs t q*gs.getD q.1 0)else none)=some r:=a;split at a
   .cases a;show 0<=t-q.2.2-ov gs t q*gs.getD q.1 0;lia
   .cases a
  .exact nomatch z
def Sn.nodes(N:Sn ls ps gs hs)(a:∀i,i<⇑ps->⇑(hs.getD i [])<=8)(hi:i<⇑ps)(b:0<=t):Rm.nodes ps gs i t<=5000:=by
 have:=GK N.s N.hl N.m N.g1 i t hi b;have c:=N.s.w.mW;have d:=a i hi;have:9*(i+1)*max 1 ⇑(hs.getD i [])<=9*61*8:=Nat.mul_le_mul ⋯ ⋯;lia
end
noncomputable def cS(ls:L4)(ps:N1)(gs:L5)(E:L0)(h:L5)(x:Nat×Int):L5:=
 if gs.getD x.1 0<=x.2 then(E.getD x.1 []).foldl (λh q=>h.set q.1.toNat q.2) h
 else match ps[x.1]? with
  | some (_,.rise y v n)=>h.set (cn (bF ls) y) (Rp.ramp (h.getD (cn (bF ls) y) 0) v n x.2)
  | _=>h
noncomputable def cH(ls:L4)(ps:N1)(gs:L5)(E:L0)(t:Int):L5:=(reach ps gs (⇑ps-1) t).foldl (cS ls ps gs E) (ls.map (·.2))
noncomputable def mq(ps:N1)(x:Nat×Int):L8:=match ps[x.1]? with
 | some (_,.ring y _)=>if x.2=0 then[y]else[]
 | _=>[]
noncomputable def lY(ps:N1)(gs:L5)(t:Int):L8:=(reach ps gs (⇑ps-1) t).flatMap (mq ps)
inductive gJ(vs:N2)(H:Hp)(Q:VK)(xk:XK):Prop
 | mk (b pl pp las pas) (ls:L4) (ps:N1) (gs:L5) (hs t):vs=[.ref b,.int t]->cx H b pl pp las pas ls ps->Sn ls ps gs hs->0<=t->t<=gs.getD (⇑ps-1) 0->(∀(l:Addr) (E:L0) (H':Hp),bI H H'->H l=none->⇑E=⇑ps->cP ls ps E->H' l=some (.lst ((cH ls ps gs E t).map V.int))->⇑(cH ls ps gs E t)=⇑ls->Q (.ref l) H')->gJ vs H Q xk
def bL.app{e:Type}{R:Addr->e->Prop}{as d:L7}{xs ys:List e}(h:bL R as xs)(k:bL R d ys):bL R (as++d) (xs++ys):=by
 have g:=h.1;refine⟨by rw[vn,vn,h.1,k.1],λi a x b c=>?_⟩;by_cases f:i<⇑as
 .rw[vB f]at b;rw[vB ⋯]at c;exact h.2 i a x b c
 .rw[vC ⋯]at b;rw[vC ⋯]at c;exact k.2 _ a x b (by rw[g];exact c)
def bL.cons{b:Type}{R:Addr->b->Prop}{a:Addr}{as:L7}{x:b}{xs:List b}(h:R a x)(k:bL R as xs):bL R (a::as) (x::xs):=bL.app (as:=[a]) (xs:=[x]) (bL.snoc (as:=[]) (xs:=[]) .nil h) k
theorem bL.rev{b:Type}{R:Addr->b->Prop}:∀{as:L7} {xs:List b},bL R as xs->bL R as.reverse xs.reverse
 | [],[],_=>.nil
 | [],_::_,h=>uf h.1 (by simp)
 | _::_,[],h=>uf h.1 (by simp)
 | a::as,x::xs,h=>by
  rw[reverse_cons,reverse_cons];exact bL.app (bL.rev (bL.tail h).2) (bL.snoc (as:=[]) (xs:=[]) .nil (bL.tail h).1)
def bL.last{e:Type}{R:Addr->e->Prop}{as:L7}{xs:List e}{x:e}(h:bL R as (xs++[x])):∃c a,as=c++[a]/\bL R c xs/\R a x:=by
 rcases List.eq_nil_or_concat as with rfl | ⟨c,a,rfl⟩
 .have:=h.1;simp at this
 .rw[List.concat_eq_append]at h|-;have g:=h.1;rw[vn,vn]at g;have d:⇑c=⇑xs:=by simpa using g
  refine⟨c,a,rfl,⟨d,λi b y f j=>?_⟩,?_⟩
  .have k:=(vx.mp f).1;exact h.2 i b y (by rw[vB k];exact f) (by rw[vB ⋯];exact j)
  .exact h.2 ⇑c a x (by simp) (by rw[d];simp)
def we{gs:L5}{n:Nat}(h:1<=n)(e:⇑gs=n):d0 (gs.map V.int) (-1)=some (.int (gs.getD (n-1) 0)):=by
 have i:lK n (-1)=some (n-1):=by
  unfold lK;simp;lia
 unfold d0;rw[vt,e,i];show(gs.map V.int)[n-1]?=_;rw[vv,vy,vz ⋯];rfl
section
variable{ls:L4}{ps:N1}{gs:L5}{hs:L1}
def Yk(W:dC ls ps):∀{i:Nat} {t:Int} {x:Nat×Int},i<⇑ps->x∈reach ps gs i t->x.1<⇑ps:=by
 intro i
 induction i using Nat.strongRecOn with
 | ind i ih=>
  intro t x c a;by_cases h:gs.getD i 0<=t\/bZ ps gs i=[]
  .rw[j4 h]at a
   simp_all
  .rw[Jv W h]at a;let⟨y,b,a⟩:=mem_flatMap.mp a;have:=QD W b;exact ih y.1 this ⋯ a
def Dk(N:Sn ls ps gs hs)(m:⇑E=⇑ps)(k:cP ls ps E):∀{i:Nat},i<⇑ps->∀q∈E.getD i [],0<=q.2/\q.2<=10^18:=by
 intro i
 induction i using Nat.strongRecOn with
 | ind i ih=>
  intro f q h;have d:E[i]?=some (E.getD i []):=by simp_all
  obtain⟨p,a⟩:∃p,ps[i]?=some p:=⟨_,vz f⟩
  rcases((k i p _ a d).2 q.1 q.2).mp h with⟨l,j,b,e,c,_⟩ | ⟨x,n,e,_⟩
  .have g:j∈bY ps p.2:=by rw[e];simp
   have:=N.s.w.cq a g;exact ih j this ⋯ _ c
  .have:=N.sU i p.1 x q.2 n (by rw[a,<-e]);lia
def HV(i:0<=h/\h<=10^18)(l:0<=v/\v<=10^18)(k:1<=n)(d:0<=j)(e:j<=n):0<=Rp.ramp h v n j/\Rp.ramp h v n j<=10^18:=by
 unfold Rp.ramp;by_cases c:h<=v
 .have a:0<=(v-h)*j:=Int.mul_nonneg ⋯ d;have b:(v-h)*j<=(v-h)*n:=Int.mul_le_mul_of_nonneg_left e ⋯;have f:0<=(v-h)*j/n:=Int.ediv_nonneg a ⋯;have g:(v-h)*j/n<=v-h:=by
   have:=Int.ediv_le_ediv (show 0<n by lia) b;rw[Int.mul_ediv_cancel _ (show n≠0 by lia)]at this;exact this
  lia
 .have a:(v-h)*j<=0:=Int.mul_nonpos_of_nonpos_of_nonneg ⋯ d;have b:(v-h)*n<=(v-h)*j:=Int.mul_le_mul_of_nonpos_left ⋯ e;have f:(v-h)*j/n<=0:=by
   have:=Int.ediv_le_ediv (show 0<n by lia) a
   simp_all
  have g:v-h<=(v-h)*j/n:=by
   have:=Int.ediv_le_ediv (show 0<n by lia) b;rw[Int.mul_ediv_cancel _ (show n≠0 by lia)]at this;exact this
  lia
end
inductive Fn where
 | hold (n:Int) | ring (x:Str) (n:Int) | rise (x:Str) (h n:Int) | row (is:L6) | side (is:L6) | again (k:Int) (j:Nat)
noncomputable def Fn.js:Fn->L6
 | .row is=>is
 | .side is=>is
 | .again _ j=>[j]
 | _=>[]
def Ex(p:Addr)(H H':Hp):Prop:=∀c u,c≠p->H c=some u->H' c=some u
def Ex.refl(H:Hp):Ex p H H:=λq q q h=>h
def Ex.trans{d e f:Hp}(a:Ex p d e)(b:Ex p e f):Ex p d f:=λc u n h=>b c u n (a c u n h)
def Ex.of{H H':Hp}(s:bI H H'):Ex p H H':=λc u q h=>s c u h
noncomputable def fx(gs:L5):Fn->Int->Prop
 | .hold n,g=>g=n
 | .ring _ n,g=>g=n
 | .rise _ _ n,g=>g=n
 | .row is,g=>g=(is.map λj=>gs.getD j 0).sum
 | .side is,g=>(∃j∈is,g=gs.getD j 0)/\∀j∈is,gs.getD j 0<=g
 | .again k j,g=>g=k*gs.getD j 0
def mB(L:L8)(M:L1)(f:Fn)(ks:L5):Prop:=ks.Pairwise (· < ·)/\∀k,k∈ks↔(∃j∈f.js,k∈M.getD j [])\/∃(x:Str) (h n:Int) (i:Nat),f = .rise x h n/\L[i]?=some x/\k=(i:Int)
def mY(M:L1)(is:L6):Prop:=(∀j∈is,M.getD j []≠[])/\is.Pairwise λa b=>∀k∈M.getD a [],¬k∈M.getD b []
noncomputable def dS(L:L8)(M:L1)(n:Nat):Fn->Prop
 | .hold m=>1<=m/\m<=10^18
 | .ring x m=>1<=m/\m<=10^18/\Ws.fG x=true
 | .rise x h m=>(∃i:Nat,L[i]?=some x)/\0<=h/\h<=10^18/\1<=m/\m<=10^18
 | .row is=>is≠[]/\⇑is<=8/\∀j∈is,j<n
 | .side is=>2<=⇑is/\⇑is<=8/\(∀j∈is,j<n)/\mY M is
 | .again k j=>1<=k/\k<=10^18/\j<n
def dS.js(h:dS L M n f):⇑f.js<=8/\∀j∈f.js,j<n:=by
 cases f with
 | row is=>exact h.2
 | side is=>exact⟨h.2.1,h.2.2.1⟩
 | again k j=>exact⟨by show 1<=8;lia,λi a=>by rw[vo.mp a];exact h.2.2⟩
 | hold n=>exact⟨va _,λj h=>nomatch h⟩
 | ring x n=>exact⟨va _,λj h=>nomatch h⟩
 | rise x v n=>exact⟨va _,λj h=>nomatch h⟩
structure l6(L:L8)(fs:List Fn)(M:L1)(gs:L5):Prop where
 ml:⇑M=⇑fs
 gl:⇑gs=⇑fs
 f:∀(i:Nat) (f:Fn),fs[i]?=some f->dS L M i f/\mB L M f (M.getD i [])/\fx gs f (gs.getD i 0)
 g:∀i,i<⇑fs->1<=gs.getD i 0/\gs.getD i 0<=10^60
noncomputable def cL(names:L8):Fn->Fm
 | .hold n=>.hold n
 | .ring x n=>.ring x n
 | .rise x h n=>.rise x h n
 | .row is=>.row (is.map λj=>names.getD j ⟨#[]⟩)
 | .side is=>.side (is.map λj=>names.getD j ⟨#[]⟩)
 | .again k j=>.again k (names.getD j ⟨#[]⟩)
def Qx{a:Type}{xs:List a}{x d:a}{j:Nat}(h:j<⇑xs):(xs++[x]).getD j d=xs.getD j d:=by
 rw[vy,vy,vB h]
def ya{a:Type}{xs:List a}{x d:a}:(xs++[x]).getD ⇑xs d=x:=by
 simp_all
def dS.ext{L:L8}{M:L1}{ks:L5}{n:Nat}{f:Fn}(q:n<=⇑M)(h:dS L M n f):dS L (M++[ks]) n f:=by
 cases f with
 | side is=>
  let⟨a,b,c,d,e⟩:=h;have g:∀j∈is,(M++[ks]).getD j []=M.getD j []:=λj i=>Qx (by have:=c j i;lia)
  refine⟨a,b,c,λj i=>by rw[g j i];exact d j i,?_⟩;exact(List.pairwise_iff_forall_sublist.mpr λ{x y} l=>by
   have o:x∈is:=l.subset vq;have p:y∈is:=l.subset (vp _ vq);rw[g x o,g y p];exact List.pairwise_iff_forall_sublist.mp e l)
 | hold m=>exact h
 | ring x m=>exact h
 | rise x v m=>exact h
 | row is=>exact h
 | again k j=>exact h
def mB.ext{L:L8}{M:L1}{ks d:L5}{f:Fn}(c:∀j∈f.js,j<⇑M)(h:mB L M f d):mB L (M++[ks]) f d:=by
 refine⟨h.1,λk=>(h.2 k).trans ?_⟩;have:(∃j∈f.js,k∈M.getD j [])↔∃j∈f.js,k∈(M++[ks]).getD j []:=by
  constructor
  .rintro⟨j,a,b⟩;exact⟨j,a,by rw[Qx (c j a)];exact b⟩
  .rintro⟨j,a,b⟩;exact⟨j,a,by rw[Qx (c j a)]at b;exact b⟩
 rw[this]
def fx.ext{gs:L5}{g' g:Int}{f:Fn}(n:∀j∈f.js,j<⇑gs)(h:fx gs f g):fx (gs++[g']) f g:=by
 have e:∀j∈f.js,(gs++[g']).getD j 0=gs.getD j 0:=λj a=>Qx (n j a)
 cases f with
 | hold m=>exact h
 | ring x m=>exact h
 | rise x v m=>exact h
 | row is=>
  show g=(is.map λj=>(gs++[g']).getD j 0).sum;have d:is.map (λj=>(gs++[g']).getD j 0)=is.map λj=>gs.getD j 0:=map_congr_left e
  rw[d];exact h
 | side is=>
  let⟨⟨j,a,i⟩,l⟩:=h;exact⟨⟨j,a,by rw[e j a];exact i⟩,λc b=>by rw[e c b];exact l c b⟩
 | again k j=>
  show g=k*(gs++[g']).getD j 0;rw[e j vq];exact h
noncomputable def bS(names:L8)(fs:List Fn):N1:=(List.range ⇑fs).map λi=>(names.getD i ⟨#[]⟩,cL names (fs.getD i (.hold 0)))
section
variable{L:L8}{fs:List Fn}{M:L1}{gs:L5}{names:L8}{ls:L4}
def qN:⇑(bS names fs)=⇑fs:=by unfold bS;rw[vt,length_range]
def BF(h:fs[i]?=some f):(bS names fs)[i]?=some (names.getD i ⟨#[]⟩,cL names f):=by
 unfold bS;have a:=(vx.mp h).1;rw[vv,List.getElem?_range a];have e:fs.getD i (.hold 0)=f:=by rw[vy,h];rfl
 show some (names.getD i ⟨#[]⟩,cL names (fs.getD i (.hold 0)))=_;rw[e]
def qM(h:(bS names fs)[i]?=some p):∃f,fs[i]?=some f/\p=(names.getD i ⟨#[]⟩,cL names f):=by
 have b:=(vx.mp h).1;rw[qN]at b;obtain⟨f,a⟩:∃f,fs[i]?=some f:=⟨_,vz b⟩
 rw[BF a]at h;exact⟨f,a,(vL h).symm⟩
def W8(c:⇑fs<=⇑names):bF (bS names fs)=names.take ⇑fs:=by
 unfold bF bS;rw[v6];refine ext_getElem (by simp_all) λi a b=>?_
 rw[getElem_map,getElem_range,getElem_take];show names.getD i ⟨#[]⟩=_;rw[vy,vz];rfl
def DR(b:⇑fs<=⇑names)(a:j<⇑fs):(bF (bS names fs))[j]?=some (names.getD j ⟨#[]⟩):=by
 rw[W8 b,List.getElem?_take,vd a,vy,vz ⋯];rfl
def BG(a:⇑fs<=⇑names)(b:names.Nodup):(bF (bS names fs)).Nodup:=by
 rw[W8 a];exact b.sublist (take_sublist _ _)
def wO(c:⇑fs<=⇑names)(d:names.Nodup)(b:∀j∈f.js,j<⇑fs):bY (bS names fs) (cL names f)=f.js:=by
 have e:∀a:L6,(∀j∈a,j<⇑fs)->(a.map λj=>names.getD j ⟨#[]⟩).map (cn (bF (bS names fs)))=a:=λa h=>by
  rw[v6]
  conv=>rhs;rw[<-List.map_id a]
  exact map_congr_left λj b=>j2 (BG c d) (DR c (h j b))
 unfold bY;cases f with
 | row a=>exact e a b
 | side a=>exact e a b
 | again k j=>exact e [j] b
 | hold n=>rfl
 | ring x n=>rfl
 | rise x v n=>rfl
def BR(f:Fn):(cL names f).ns=f.js.map λj=>names.getD j ⟨#[]⟩:=by cases f<;>rfl
def l6.wf(D:l6 (bF ls) fs M gs)(m:⇑fs<=⇑names)(t:names.Nodup)(l:(bF ls).Nodup)(s:⇑ls<=8)(d:⇑fs<=61):dC ls (bS names fs):=by
 refine⟨l,s,BG m t,by rw[qN];exact d,λi p g=>?_,λi y x h n g=>?_⟩
 .let⟨f,c,rfl⟩:=qM g;have u:=(vx.mp c).1;let⟨a,Z⟩:=D.f i f c;have q:=a.js;refine⟨λx o=>?_,?_⟩
  .rw[BR]at o;let⟨j,r,rfl⟩:=vK.mp o;have:=q.2 j r;exact⟨j,this,DR m ⋯⟩
  .rw[BR,vt];exact q.1
 .let⟨f,c,e⟩:=qM g;let⟨a,Z⟩:=D.f i f c;have b:=(Prod.mk.inj e).2;cases f with
  | rise x' h' n'=>
   have:x=x':=by injection b
   subst this;exact a.1
  | hold n=>cases b
  | ring x n=>cases b
  | row is=>cases b
  | side is=>cases b
  | again k j=>cases b
def l6.Mi(D:l6 (bF ls) fs M gs)(m:⇑fs<=⇑names)(s:names.Nodup)(b:(bF ls).Nodup):dA ls (bS names fs) M:=by
 intro i p r o u;let⟨f,g,rfl⟩:=qM o;have t:=(vx.mp g).1;let⟨c,d,Z⟩:=D.f i f g;have q:=c.js.2;have l:M.getD i []=r:=by simp_all
 rw[l]at d;refine⟨d.1,λk=>(d.2 k).trans ?_⟩;rw[wO m s λj a=>by have:=q j a;lia];refine⟨λh=>h.imp id ?_,λh=>h.imp id ?_⟩
 .rintro⟨x,v,n,j,rfl,a,rfl⟩;exact⟨x,v,n,rfl,by rw[j2 b a]⟩
 .rintro⟨x,v,n,e,rfl⟩;cases f with
  | rise x' h' n'=>
   have:x'=x:=by injection e
   subst this;let⟨j,a⟩:=c.1;exact⟨x',h',n',j,rfl,a,by rw[j2 b a]⟩
  | hold n=>cases e
  | ring x n=>cases e
  | row is=>cases e
  | side is=>cases e
  | again k j=>cases e
def Hy{M c:L1}(W:dC ls ps)(h:dA ls ps M)(h':dA ls ps c)(l:⇑M=⇑ps)(r:⇑c=⇑ps):∀i,i<⇑ps->c.getD i []=M.getD i []:=by
 intro i
 induction i using Nat.strongRecOn with
 | ind i ih=>
  intro q;have e:ps[i]?=some ps[i]:=vz q;have p:M[i]?=some (M.getD i []):=by simp_all
  have f:c[i]?=some (c.getD i []):=by simp_all
  let⟨a,b⟩:=h i _ _ e p;let⟨n,o⟩:=h' i _ _ e f;refine um n a λk=>(o k).trans (Iff.trans ?_ (b k).symm)
  have m:(∃j∈bY ps (ps[i]).2,k∈c.getD j [])↔∃j∈bY ps (ps[i]).2,k∈M.getD j []:=by
   constructor
   .rintro⟨j,d,g⟩;have:=W.cq e d;exact⟨j,d,by rw[<-ih j this ⋯];exact g⟩
   .rintro⟨j,d,g⟩;have:=W.cq e d;exact⟨j,d,by rw[ih j this ⋯];exact g⟩
  rw[m]
def l6.sn(D:l6 (bF ls) fs M gs)(C:⇑fs<=⇑names)(G:names.Nodup)(B:(bF ls).Nodup)(X:⇑ls<=8)(J:⇑fs<=61)(f1:1<=⇑fs)(Y:∀q∈ls,0<=q.2/\q.2<=10^18):Sn ls (bS names fs) gs M:=by
 have W:=D.wf C G B X J;have O:=D.Mi C G B;have dl:⇑(bS names fs)=⇑fs:=qN;have ml:=D.ml;have gl:=D.gl;refine⟨⟨W,⋯,λi w=>?_,λZ T K i w=>Hy W O K ⋯ T i w,λi p t=>?_,λi p qs t e=>?_⟩,⋯,O,λi w=>(D.g i ⋯).1,⋯,Y,λi y x v n t=>?_,λi y x k t=>?_⟩
 .have:=D.g i ⋯;lia
 .let⟨f,m,rfl⟩:=qM t;have w:=(vx.mp m).1;let⟨d,Z,u⟩:=D.f i f m;have o:=d.js.2;rw[show bY (bS names fs) (names.getD i ⟨#[]⟩,cL names f).2=f.js from wO C G λj A=>by have:=o j A;lia];cases f with
  | hold n=>exact⟨trivial,λg h=>Eq.trans h (Eq.symm u)⟩
  | ring x n=>exact⟨trivial,λg h=>Eq.trans h (Eq.symm u)⟩
  | rise x v n=>exact⟨trivial,λg h=>Eq.trans h (Eq.symm u)⟩
  | row is=>exact⟨trivial,λg h=>Eq.trans h (Eq.symm u)⟩
  | side is=>
   refine⟨λz=>?_,λg h=>?_⟩
   .have p2:=d.1;have:⇑is=0:=by rw[<-vt (f:=λj=>gs.getD j 0)];exact congrArg List.length z
    lia
   .let⟨Q,R⟩:=h;let⟨j,A,rfl⟩:=vK.mp Q;let⟨⟨E,s,e'⟩,U⟩:=u;have a1:=U j A;have a2:=R (gs.getD E 0) (vK.mpr ⟨E,s,rfl⟩);lia
  | again k j=>
   have P:=D.g j (by have:=o j vq;lia);refine⟨⟨gs.getD j 0,[],rfl,Int.le_trans nofun d.1,d.2.1,⋯,P.2⟩,λg h=>?_⟩;let⟨y,S,rfl⟩:=h;cases S;exact Eq.symm u
 .let⟨f,m,rfl⟩:=qM t;have w:=(vx.mp m).1;let⟨d,Z,Z⟩:=D.f i f m;have o:=d.js.2;rw[show bY (bS names fs) (names.getD i ⟨#[]⟩,cL names f).2=f.js from wO C G λj A=>by have:=o j A;lia];cases f with
  | side is=>
   let⟨Z,Z,Z,H,I⟩:=d;refine⟨H,λk=>?_⟩;have N:∀o:L6,o.Pairwise (λa b=>∀k∈M.getD a [],¬k∈M.getD b [])->⇑((o.map λj=>M.getD j []).filter λF=>decide (k∈F))<=1:=λo=>by
    induction o with
    | nil=>exact λZ=>va _
    | cons j r ih=>
     intro h;rw[vV]at h;rw[v9,v8];split
     .rename_i c;have e:(r.map λj=>M.getD j []).filter (λF=>decide (k∈F))=[]:=by
       rw[List.filter_eq_nil_iff];intro F L;let⟨E,s,rfl⟩:=vK.mp L;have:=h.1 E s k (of_decide_eq_true c);simpa using this
      rw[e];exact vb _
     .exact ih h.2
   exact N is I
  | hold n=>cases e
  | ring x n=>cases e
  | rise x v n=>cases e
  | row is=>cases e
  | again k j=>cases e
 .let⟨f,m,e⟩:=qM t;let⟨d,Z⟩:=D.f i f m;have l:=(Prod.mk.inj e).2;cases f with
  | rise x' K n'=>
   injection l with e3 e4 e5;subst e3 e4 e5;exact d.2
  | hold n=>cases l
  | ring x n=>cases l
  | row is=>cases l
  | side is=>cases l
  | again k j=>cases l
 .let⟨f,m,e⟩:=qM t;let⟨d,Z⟩:=D.f i f m;have l:=(Prod.mk.inj e).2;cases f with
  | again k' j=>
   injection l with e3 e4;subst e3;exact⟨d.1,d.2.1⟩
  | rise x' K n'=>cases l
  | hold n=>cases l
  | ring x n=>cases l
  | row is=>cases l
  | side is=>cases l
end
end Rm
namespace L2
open PySem PySem.Spec PySem.W PyProof.Rows
theorem CN:∀{ys:N2} {us:L9},⇑us=⇑ys->(∀(j:Nat) (u:Value),us[j]?=some u->∃y,ys[j]?=some y/\RelV y u)->Vals ys us
 | [],[],_,_=>.nil
 | [],_::_,h,_=>by simp at h
 | _::_,[],h,_=>by simp at h
 | y::ys,u::us,h,q=>by
  let⟨b,e,r⟩:=q 0 u rfl;simp only[List.getElem?_cons_zero,Option.some.injEq]at e;subst e;exact .cons r (CN #v[h] λj u a=>#v[q (j+1) u #v[a]])
open PySem PySem.Spec PyProof.Rows
def EZ{P:Nat->Value->Prop}:∀{xs:N2} {us:L9},⇑us=⇑xs->(∀(i:Nat) v,us[i]?=some v->P i v)->(∀(i:Nat) (v:Value) (x:V),P i v->xs[i]?=some x->RelV x v)->Vals xs us:=by
 intro xs
 induction xs generalizing P with
 | nil=>
  intro us h q q;rw[List.length_eq_zero_iff.mp h];exact .nil
 | cons x r ih=>
  intro us h a b;cases us with
  | nil=>exact uf h (by simp)
  | cons u us=>
   refine .cons (b 0 u x (a 0 u rfl) rfl) (ih (P:=λi v=>P (i+1) v) #v[h] (λi v e=>a (i+1) v #v[e]) λi v y p e=>b (i+1) v y p #v[e])
def D1(ta:TA):TE:=λσ H Q=>ta σ H λvs H1=>∃n:Nat,vs=[.int (n:Nat)]/\n<=10^6/\∀p,H1 p=none->Q (.ref p) (upd H1 p (.lst ((List.range n).map λu:Nat=>V.int (u:Nat))))
def Mc{a:TA}{b:St}{H:Hp}{Q:VK}(h:a b H λvs H1=>∃n:Nat,vs=[.int (n:Nat)]/\n<=10^6/\∀p,H1 p=none->Q (.ref p) (upd H1 p (.lst ((List.range n).map λu:Nat=>V.int (u:Nat))))):D1 a b H Q:=h
def EH{X:Cx}{a:Expr}{K:TA}{p C D c:Pos}(N:X.calm=true)(r:Gl X "list")(z:X.mg "list"= none)(w:Gl X "range")(A:X.mg "range"= none)(M:PA X [a] K)
  (g:starEach [.Call (.Name "range" C) [a] [] c] X.env=[(false,eval (.Call (.Name "range" C) [a] [] c) X.env)]:=by rfl)
  (R:starEach [a] X.env=[(false,eval a X.env)]:=by rfl) :
  PE X (.Call (.Name "list" p) [.Call (.Name "range" C) [a] [] c] [] D) (D1 K):=by
 intro j s σ H Q I h;refine wpAny_Call_Name_kw (Zv I r z Yz ?_);refine PyProof.Rows.callWith_type1 ?_ g rfl;rw[g];refine Calls.spliced_cons ?_;refine Call_ (Zv I w A boot_range (PyProof.Rows.callWith_type1 (cv (M c j s σ H _ I h) λus l z_=>?_) R rfl));obtain⟨vs,H1,m,W,U⟩:=z_;let⟨n,rfl,hn,q⟩:=U;let⟨u,rfl,t,rfl⟩:=vals1 W;refine call_range_1 ?_;refine Calls.spliced_nil ?_;have T:Builtin.Range.rangeSize 0 (n:Int) 1=((n:Nat):Int):=by rw[rangeSize_one];split<;>lia
 have sl:(10^6:Nat)<=2^24:=by decide
 refine call_list_range (n:=n) (m.ok.hd N) (IsRange.new ..) (small_one ⋯ ⋯ ⋯ ⋯) T ⋯ λE Y f L S e d=>?_
 have B:∀b o,l.heap.get? b=some o->E.get? b=some o:=λb o e=>S b o (vJ _ e)
 have J:l.heap.objs.size<=(l.heap.push {cls:=.type "range",data:=.fields #[.int 0 l.toks,.int n t,.int 1 (l.toks+1)]}).objs.size:=by simp_all
 have Z:Vals ((List.range n).map λu:Nat=>V.int (u:Nat)) f.toList:=by
  refine EZ (P:=λi v=>∃t,v=Value.int (0+(i:Int)*1) t) (by rw[Array.length_toList,d.1,vt,length_range]) (λi v e=>d.2 i v #v[e]) λi v x O F=>?_
  rw[vv]at F;let⟨k,y,rfl⟩:=vg.mp F;let⟨t,rfl⟩:=O;have G:=(vx.mp y).1;rw[length_range]at G;rw[List.getElem?_range G]at y;cases y;exact⟨t,by simp⟩
 have sz:(10^6:Nat)<=sizeLine:=by decide
 refine⟨.ref _,_,m.laid (t':=Y) B J (show cf X.prog X.w _ E _ (.lst ((List.range n).map λu:Nat=>V.int (u:Nat)))from⟨by rw[vt,length_range];lia,f.toList,L,Z,#v[e]⟩),rfl,q _ (m.cw.fresh J)⟩
noncomputable abbrev NI:=Sum Key (List Key)
noncomputable abbrev NK:=List NI
section
variable(P:Program)(w:World)
inductive gW(h:Heap):NK->L9->Prop
 | nil:gW h [] []
 | key {k:Key} {v:Value} {ks:NK} {vs:L9}:fB k v=true->gW h ks vs->gW h (Sum.inl k::ks) (v::vs)
 | tup {kk:List Key} {b:Addr} {ks:NK} {vs:L9}:IsTupleKey (bR P w) h kk b->gW h ks vs->gW h (Sum.inr kk::ks) (.ref b::vs)
def og(h:Heap)(ks:NK)(a:Addr):Prop:=∃o items n,h.get? a=some o/\o.cls = .type "tuple"/\o.data = .seq items n/\gW P w h ks items.toList
end
section
variable{P:Program}{w:World}{h h':Heap}
def gW.inj:∀{x y:NK} {vs:L9},gW P w h x vs->gW P w h y vs->x=y
 | _,_,_,.nil,q=>by cases q;rfl
 | _,_,_,.key a r,q=>by
  cases q with
  | key b t=>rw[(bR P w).inj _ _ _ a b,r.inj t]
  | tup b t=>exact uf ((bR P w).byValue _ _ a) (by simp[carriedByValue])
 | _,_,_,.tup a r,q=>by
  cases q with
  | key b t=>exact uf ((bR P w).byValue _ _ b) (by simp[carriedByValue])
  | tup b t=>rw[a.inj b,r.inj t]
def gW.keeps{d:Addr}{o:Obj}{es ep}(ho:h.get? d=some o)(hd:o.data = .dict es ep)(hs:Heap.SameBut d h h'):∀{x:NK} {vs:L9},gW P w h x vs->gW P w h' x vs
 | _,_,.nil=>.nil
 | _,_,.key a r=>.key a (r.keeps ho hd hs)
 | _,_,.tup a r=>.tup (a.keeps ho hd hs) (r.keeps ho hd hs)
noncomputable def rg(w:World)(P:Program):NI->Int
 | .inl k=>sM w k
 | .inr kk=>tupleKeyHash (bR P w) kk
noncomputable def mT:NI->Nat
 | .inl _=>1
 | .inr kk=>⇑kk+1
noncomputable def lI:NK->Nat
 | []=>1
 | x::r=>mT x+lI r
noncomputable def nE(w:World)(P:Program)(ks:NK):Int:=reduceHash (Builtin.Tuple.tupleHashOf (ks.map (rg w P)))
def og.typeIs{s:Shared}{ks:NK}{a:Addr}(x:og P w s.heap ks a):s.TypeIs (.ref a) "tuple":=let ⟨o,_,_,ho,hc,_⟩:=x;⟨o,ho,hc⟩
section
variable{A:Around}{E:Nz}{s:Shared}
def Iz{x:NI}{ks:NK}{v:Value}{vs:L9}{Q:Int->Shared->Prop}(b:A.units<cLine)(i:gW P w s.heap (x::ks) (v::vs))(h:Q (rg w P x) {s with toks:=s.toks+mT x}):wpAny (model P w) A (pyHash v) Q E s:=by
 cases i with
 | key a r=>exact(bR P w).pyHash a h
 | tup a r=>exact wpAny_pyHash_tuple b a h
theorem Cz(x:NI):∀ks:NK,lI (ks++[x])=lI ks+mT x
 | []=>by show mT x+1=1+mT x;lia
 | y::r=>by show mT y+lI (r++[x])=mT y+lI r+mT x;rw[Cz x r];lia
def IT{ks:NK}{a:Addr}{Q:Int->Shared->Prop}(C:A.units+60<cLine)(u:og P w s.heap ks a)(h:Q (nE w P ks) {s with toks:=s.toks+lI ks}):wpAny (model P w) A (pyHash (.ref a)) Q E s:=by
 have T:=u.typeIs;let⟨o,m,n,B,Z,v,z⟩:=u;have k:A.units<cLine:=⋯
 unfold pyHash
 first | unfold pyHashByItsType | skip
 first | refine uh (wpAny_cRoomFor_or (.inr k) ?_) | skip
 refine uh (wpAny_specialOf T F.slot_tuple_hash.lookup ?_);show wpAny _ _ (if(some (Value.builtin "tuple.__hash__")==some Value.none)=true then _ else _) Q E s;rw[vc (by rw[beq_builtin_none];exact vF)];refine uh (wpAny_specialOf T F.slot_tuple_hash.lookup ?_);show wpAny _ _ (callSpecialIfBoundUnlessNone? (.ref a) "__hash__" _ >>= _) Q E s;refine uh (wpAny_callSpecialIfBoundUnlessNone?_slot T F.slot_tuple_hash (wpAny_call_entry F.slot_tuple_hash T F.entry_tuple_hash ?_ (F.args_tuple_hash_1 _)));show wpAny _ _ (Builtin.Tuple.tupleItemsOf (.ref a) >>= _) _ _ s;refine uh (wpAny_tupleItemsOf B v ?_);refine uh ?_;rw[<-Array.forIn_toList];refine wpAny_forIn_list _ (λd (b:Array Int) q=>∃c left:NK,ks=c++left/\gW P w s.heap left d/\b.toList=c.map (rg w P)/\q={s with toks:=s.toks+(lI c-1)}) _ ?_ ?_ _ _ ⟨[],ks,rfl,z,rfl,rfl⟩
 .rintro x d b q ⟨c,left,rfl,g,j,rfl⟩;have p:∀y:NI,1<=mT y:=λy=>by cases y<;>simp[mT]
  have i:∀l:NK,1<=lI l:=λl=>by
   cases l with
   | nil=>exact vb _
   | cons y r=>exact vW (p y) (Nat.le_add_right _ _)
  cases left with
  | nil=>cases g
  | cons y ks'=>
   have e:gW P w s.heap ks' d:=by cases g with
    | key a r=>exact r
    | tup a r=>exact r
   have f:s.toks+(lI c-1)+mT y=s.toks+(lI (c++[y])-1):=by rw[Cz];have:=i c;lia
   refine uh (Iz (s:={s with toks:=s.toks+(lI c-1)}) (by show A.units+1<cLine;lia) g ?_)
   first
    | exact ug ⟨c++[y],ks',by simp,e,by simp[j],by rw[<-f]⟩
    | exact uh (ug (ug ⟨c++[y],ks',by simp,e,by simp[j],by rw[<-f]⟩))
 .rintro b q ⟨c,left,rfl,g,j,rfl⟩;cases g;rw[append_nil]at h;have i:1<=lI c:=by
   cases c with
   | nil=>exact vb _
   | cons y r=>cases y<;>simp only[lI,mT]<;>lia
  have t:s.toks+(lI c-1)+1=s.toks+lI c:=⋯
  show wpAny _ _ (retInt (Builtin.Tuple.tupleHashOf b.toList)) _ _ _;rw[j];refine wpAny_ret_mkInt ?_;show wpAny _ _ (if(decide (-(2:Int)^63<=Builtin.Tuple.tupleHashOf (c.map (rg w P)))&&decide (Builtin.Tuple.tupleHashOf (c.map (rg w P))<2^63))=true then _ else _) Q E _;unfold nE reduceHash at h;by_cases e:(decide (-(2:Int)^63<=Builtin.Tuple.tupleHashOf (c.map (rg w P)))&&decide (Builtin.Tuple.tupleHashOf (c.map (rg w P))<2^63))=true
  .rw[vd e];rw[vd e]at h;exact ug (by simpa [t]using h)
  .rw[vc e];rw[vc e]at h;exact uh (wpAny_rule (ug (by simpa [t]using h)))
def LW{x y:NI}{ks ls:NK}{u v:Value}{us vs:L9}(p:A.units+1<cLine)(i:gW P w s.heap (x::ks) (u::us))(j:gW P w s.heap (y::ls) (v::vs)){Q:Bool->Shared->Prop}(h:Q (decide (x=y)) s):wpAny (model P w) A (eqBool u v) Q E s:=by
 have f:∀{m:List Key} {b:Addr},IsTupleKey (bR P w) s.heap m b->∃c,s.heap.IsTuple b c:=λ⟨o,c,n,g,k,l,_⟩=>⟨c,o,g,k,n,l⟩
 cases i with
 | key a r=>
  cases j with
  | key b t=>
   refine(bR P w).eqBool a b ?_
   simp_all
  | tup b t=>
   let⟨c,e⟩:=f b;rw[vH (λz=>nomatch z)]at h;rcases Jh a with⟨i,t,rfl,rfl⟩ | ⟨x,t,rfl,rfl⟩
   .exact SeqAt.EqAt.int_tuple i t e ⋯ _ _ _ _ h
   .exact SeqAt.EqAt.str_tuple x t e ⋯ _ _ _ _ h
 | tup a r=>
  let⟨c,d⟩:=f a;cases j with
  | key b t=>
   rw[vH (λz=>nomatch z)]at h;rcases Jh b with⟨i,t,rfl,rfl⟩ | ⟨x,t,rfl,rfl⟩
   .exact SeqAt.EqAt.tuple_int i t d ⋯ _ _ _ _ h
   .exact SeqAt.EqAt.tuple_str x t d ⋯ _ _ _ _ h
  | tup b t=>
   refine wpAny_eqBool_tuple ⋯ a b ?_
   simp_all
theorem Dl(c:A.units+1<cLine):∀{x y:NK} {us vs:L9},gW P w s.heap x us->gW P w s.heap y vs->∀(j:Nat) (h1:j<⇑us) (h2:j<⇑vs),∃(a:j<⇑x) (b:j<⇑y),∀(E:Nz) (Q:Bool->Shared->Prop),Q (decide (x[j]=y[j])) s->wpAny (model P w) A (eqBool us[j] vs[j]) Q E s
 | [],_,_,_,i,_,j,h1,_=>by cases i;exact uf h1 (Nat.not_lt_zero _)
 | _::_,[],_,_,_,i,j,_,h2=>by cases i;exact uf h2 (Nat.not_lt_zero _)
 | x::xs,y::ys,[],_,i,_,_,_,_=>nomatch i
 | x::xs,y::ys,_::_,[],_,i,_,_,_=>nomatch i
 | x::xs,y::ys,u::us,v::vs,i,k,0,_,_=>⟨Nat.succ_pos _,Nat.succ_pos _,λE Q h=>LW c i k h⟩
 | x::xs,y::ys,u::us,v::vs,i,k,j+1,h1,h2=>by
  have d:gW P w s.heap xs us:=by cases i with
   | key _ r=>exact r
   | tup _ r=>exact r
  have e:gW P w s.heap ys vs:=by cases k with
   | key _ r=>exact r
   | tup _ r=>exact r
  let⟨a,b,q⟩:=Dl c d e j (Nat.lt_of_succ_lt_succ h1) (Nat.lt_of_succ_lt_succ h2);exact⟨Nat.succ_lt_succ a,Nat.succ_lt_succ b,λE Q h=>q E Q h⟩
def gW.length:∀{x:NK} {vs:L9},gW P w h x vs->⇑x=⇑vs
 | _,_,.nil=>rfl
 | _,_,.key _ r=>by rw[vQ,vQ,⇑r]
 | _,_,.tup _ r=>by rw[vQ,vQ,⇑r]
def Lr{a:Type}[DecidableEq a]{x y:List a}{e:Nat->Bool}(d:∀j (h1:j<⇑x) (h2:j<⇑y),e j=decide (x[j]=y[j])):((List.range (min ⇑x ⇑y)).all e&&⇑x==⇑y)=decide (x=y):=by
 by_cases z:x=y
 .simp_all
 .rw[vH z];cases e':((List.range (min ⇑x ⇑y)).all e&&⇑x==⇑y)with
  | false=>rfl
  | true=>
   rw[Bool.and_eq_true]at e';let⟨h1,h2⟩:=e';have h2:⇑x=⇑y:=by simpa using h2
   refine uf (ext_getElem h2 λj b c=>?_) z;have:=all_eq_true.mp h1 j (v4.mpr ⋯);rw[d j b c]at this;exact of_decide_eq_true this
def Mf{x y:NK}{a b:Addr}{Q:Bool->Shared->Prop}(hu:A.units+60<cLine)(T:og P w s.heap x a)(U:og P w s.heap y b)(h:Q (decide (x=y)) s):wpAny (model P w) A (eqBool (.ref a) (.ref b)) Q E s:=by
 by_cases B:a=b
 .subst B;let⟨o,c,n,R,_,H,I⟩:=T;let⟨o',a0,n',i,_,f,N⟩:=U;rw[R]at i;cases i;rw[H]at f;cases f;rw[I.inj N,vG rfl]at h;exact SeqAt.EqAt.same _ P w E Q h
 .have X:=T.typeIs;have Y:=U.typeIs;let⟨⟨_,oa,_,sa⟩,c,n,R,Z,H,I⟩:=id T;let⟨⟨_,ob,_,sb⟩,d,m,i,C,f,p⟩:=id U;simp only at Z H C f;subst Z H C f;unfold eqBool;refine wpAny_holding ?_;refine wpAny_ite_split (λz=>uf (by have:=eq_of_beq z;injection this) B) λ_=>?_
  have lx:⇑x=c.size:=I.length.trans Array.length_toList;have ly:⇑y=d.size:=p.length.trans Array.length_toList
  let e:Nat->Bool:=λj=>decide (x[j]?=y[j]?)
  have J:((List.range (min c.size d.size)).all e&&c.size==d.size)=decide (x=y):=by
   rw[<-lx,<-ly];refine Lr λj K L=>?_
   show decide (x[j]?=y[j]?)=_;rw[vz K,vz L];exact decide_eq_decide.mpr ⟨vL,congrArg _⟩
  refine uh (wpAny_richCompare_same_room (op:=.Eq) X Y F.slot_tuple_eq (wpAny_call_entry F.slot_tuple_eq X F.entry_tuple_eq ?_ (F.args_tuple_eq_2 _ _)) ⋯);show wpAny _ _ (isInstance (.ref b) (.type "tuple") >>= _) _ _ s;refine uh (wpAny_isInstance Y isSubtype_tuple_tuple ?_);simp only[Bool.not_true,Bool.false_eq_true,if_false];refine uh (wpAny_tupleItemsOf R rfl ?_);refine uh (wpAny_tupleItemsOf i rfl ?_);refine uh ?_;refine wpAny_forIn_list _ (λl r W=>r.1=none/\W=s/\∃k,l=(List.zip c.toList d.toList).drop k/\∀j,j<k->e j=true) _ ?_ ?_ _ _ ⟨rfl,rfl,0,rfl,λj p=>uf p (Nat.not_lt_zero _)⟩
  .rintro⟨u,v⟩ l r W ⟨S,rfl,k,G,O⟩;have D:k<⇑(List.zip c.toList d.toList):=by
    rcases Nat.lt_or_ge k ⇑(List.zip c.toList d.toList) with g | g
    .exact g
    .rw[List.drop_eq_nil_of_le g]at G;cases G
   rw[List.drop_eq_getElem_cons D]at G;injection G with hz1 hz2;rw[List.length_zip]at D;have l1:k<⇑c.toList:=⋯
   have l2:k<⇑d.toList:=⋯
   rw[List.getElem_zip]at hz1;injection hz1 with eu ev;let⟨K,L,q⟩:=Dl (A:=A.in1) (by show A.units+1+1<cLine;lia) I p k l1 l2;have ek:e k=decide (x[k]=y[k]):=by
    show decide (x[k]?=y[k]?)=_;rw[vz K,vz L];exact decide_eq_decide.mpr ⟨vL,congrArg _⟩
   rw[eu,ev];refine uh (q _ _ ?_);by_cases z:x[k]=y[k]
   .rw[vG z];simp only[Bool.not_true,Bool.false_eq_true,if_false];refine ug ⟨rfl,rfl,k+1,hz2,λj p=>?_⟩;rcases Nat.lt_or_ge j k with g | g
    .exact O j g
    .have:j=k:=⋯
     subst this;rw[ek,vG z]
   .rw[vH z];simp only[Bool.not_false,if_true];have hf:decide (x=y)=false:=vH λg=>z (by subst g;rfl)
    rw[hf]at h;exact uh (ug (ug (ug ⟨_,rfl,(λe=>nomatch e),wpAny_truthy_bool h⟩)))
  .rintro⟨r1,r2⟩ W ⟨S,rfl,k,G,O⟩;simp only at S;subst S;have M:⇑(List.zip c.toList d.toList)<=k:=by
    simp_all
   rw[List.length_zip,Array.length_toList,Array.length_toList]at M;have t:(c.size==d.size)=decide (x=y):=by
    rw[<-J,all_eq_true.mpr λj p=>O j (by have:=v4.mp p;lia),Bool.true_and]
   refine ug ⟨_,rfl,(λe=>nomatch e),wpAny_truthy_bool ?_⟩;rw[t];exact h
def Fh{p:List Key}{b:Addr}{n:Nat}{Q:Bool->Shared->Prop}(i:IsTupleKey (bR P w) s.heap p b)(h:Q true s):wpAny (model P w) A (eqIsQuiet (n+1) (.ref b)) Q E s:=by
 have T:=i.typeIs;let⟨o,d,m,l,Z,j,k⟩:=i;unfold eqIsQuiet;refine uh (wpAny_specialOf T F.slot_tuple_eq.lookup ?_);show wpAny _ _ (isInstance (.ref b) (.type "tuple") >>= _) _ _ s;refine uh (wpAny_isInstance T isSubtype_tuple_tuple ?_);simp only[Bool.not_true,Bool.false_eq_true,if_false];refine uh (wpAny_seqItems l j ?_);refine uh ?_;show wpAny _ _ (forIn d _ _) _ _ s;rw[<-Array.forIn_toList];refine wpAny_forIn_list _ (λc r g=>r.1=none/\g=s/\∀v∈c,carriedByValue v=true) _ ?_ ?_ _ _ ⟨rfl,rfl,k.byValue⟩
 .rintro v c r g ⟨e,rfl,a⟩;rw[eqIsQuiet_byValue _ (a v vq)];refine uh (ug ?_);simp only[Bool.not_true,Bool.false_eq_true,if_false];exact ug ⟨rfl,rfl,λu f=>a u (vp _ f)⟩
 .rintro⟨q,t⟩ g ⟨e,rfl,_⟩;simp only at e;subst e;exact ug h
def HU{ks:NK}{a:Addr}{Q:Bool->Shared->Prop}(f:og P w s.heap ks a)(h:Q true s):wpAny (model P w) A (eqIsQuiet 8 (.ref a)) Q E s:=by
 have T:=f.typeIs;let⟨o,c,m,l,q,i,j⟩:=f;unfold eqIsQuiet;refine uh (wpAny_specialOf T F.slot_tuple_eq.lookup ?_);show wpAny _ _ (isInstance (.ref a) (.type "tuple") >>= _) _ _ s;refine uh (wpAny_isInstance T isSubtype_tuple_tuple ?_);simp only[Bool.not_true,Bool.false_eq_true,if_false];refine uh (wpAny_seqItems l i ?_);refine uh ?_;show wpAny _ _ (forIn c _ _) _ _ s;rw[<-Array.forIn_toList];refine wpAny_forIn_list _ (λb r e=>r.1=none/\e=s/\∃g:NK,gW P w s.heap g b) _ ?_ ?_ _ _ ⟨rfl,rfl,ks,j⟩
 .rintro v b r e ⟨d,rfl,g,k⟩;cases k with
  | key z t=>
   rw[eqIsQuiet_byValue _ ((bR P w).byValue _ _ z)];refine uh (ug ?_);simp only[Bool.not_true,Bool.false_eq_true,if_false];exact ug ⟨rfl,rfl,_,t⟩
  | tup z t=>
   refine uh (Fh z ?_);simp only[Bool.not_true,Bool.false_eq_true,if_false];exact ug ⟨rfl,rfl,_,t⟩
 .rintro⟨n,p⟩ e ⟨d,rfl,_⟩;simp only at d;subst d;exact ug h
end
noncomputable def eV(P:Program)(w:World):HeapKind P w NK where
 is:=og P w
 hash:=nE w P
 draws:=lI
 room:=λA=>A.units+60<cLine
 inj:=λhx hy=>by
  let⟨o,its,n,ho,q,hd,hi⟩:=hx;let⟨o',its',n',ho',q,hd',hi'⟩:=hy;rw[ho]at ho';cases ho';rw[hd]at hd';cases hd';exact hi.inj hi'
 keeps:=λ{h h' k a d o es ep} x ho hd hs=>by
  let⟨o',its,n,ho',hc,hd',hi⟩:=x;have ne:a≠d:=λz=>by
   lia
  exact⟨o',its,n,(hs.2 a ne).trans ho',hc,hd',hi.keeps ho hd hs⟩
 pyHash:=λhu hk h=>IT hu hk h
 eqBool:=λhu hx hy h=>Mf hu hx hy h
 quiet:=λhk h=>HU hk h
end
section
variable{prog:Program}{w:World}{K:Type}[DecidableEq K]{knd:HeapKind prog w K}{A:Around}{E:Nz}{s:Shared}
def Fs{d a:Addr}{xs:List (K×Addr×Value)}{k:K}{v:Value}{Q:Nz}(q:knd.room A)(b:knd.is s.heap k a)(G:s.heap.DictOfH knd d xs)(hz:⇑xs<=sizeLine)
  (C:∀p,atKey xs k=some p->Q p.2 {s with toks:=s.toks+knd.draws k})
  (D:atKey xs k=none->∀h',h'.DictOfH knd d (xs++[(k,a,v)])->Heap.SameBut d s.heap h'->Q v {s with heap:=h',toks:=s.toks+knd.draws k}) :
  wpAny (model prog w) A (dictSetDefault d (.ref a) v) Q E s:=by
 let⟨o,B,u,g,F,c,l,h,m⟩:=G;have H:=size_of_entries l;unfold dictSetDefault
 try with_reducible refine wpAny_holding ?_
 refine uh (knd.pyHash q b ?_);refine uh (wpAny_dictFind_heap (s:={s with toks:=s.toks+knd.draws k}) q b g c l h m (λt=>?_) λj p n=>?_)
 .have i:k∉xs.map (·.1):=not_mem_keys_of_get t;refine uh (wpAny_rule (uh (wpAny_updateDictKeys (hz:=⋯) (s:={s with toks:=s.toks+knd.draws k}) g c (ug (D (atKey_none_of_get t) _ ⟨_,_,u+1,Heap.get?_update_self _ g (Obj.isFreed_of_dict (Obj.data_mapDictKeys c _)),F.mapDictKeys _,Obj.data_mapDictKeys c _,?_,λx f=>?_,?_⟩ (Heap.SameBut.update ..))))))
  .simp[l,entryOfKey]
  .rcases vh.mp f with f | f
   .exact knd.keeps (h x f) g c (Heap.SameBut.update ..)
   .rw[vo.mp f];exact knd.keeps b g c (Heap.SameBut.update ..)
  .rw[vj,nodup_append];refine⟨m,by simp,λx f y r z=>?_⟩;simp only[map_cons,map_nil,mem_singleton]at r;exact i (r▸z▸f)
 .refine uh (wpAny_dictEntries (s:={s with toks:=s.toks+knd.draws k}) g c ?_);have e:B[j]?=some (entryOfKey knd (k,p)):=by rw[entry_at l j,n];rfl
  rw[e];exact uh (wpAny_rule (ug (C p (atKey_of_get m n))))
def EV(d a:Addr)(i:(d==sysModules)=false)(v:Value) :
  MeetsIn prog w (Builtin.«dict.setdefault» ⟨[.ref d,.ref a,v],[]⟩) (λA R s=>knd.room A.in1/\∃k xs,knd.is s.heap k a/\s.heap.DictOfH knd d xs/\⇑xs<=sizeLine/\
   (∀p,atKey xs k=some p->R (.ok (.ret p.2)) {s with toks:=s.toks+knd.draws k})/\
   (atKey xs k=none->∀h',h'.DictOfH knd d (xs++[(k,a,v)])->Heap.SameBut d s.heap h'->R (.ok (.ret v)) {s with heap:=h',toks:=s.toks+knd.draws k})):=
 .of_wp λA R s ⟨m,k,xs,b,f,n,g,h⟩=>by
  unfold Builtin.«dict.setdefault»;refine uh ?_;unfold Builtin.Dict.keyAndDefault;refine uh (wpAny_notOrdered_dict f.typeIs ?_);show wpAny _ _ (pure (d,Value.ref a,some v)) _ _ s;refine ug ?_;show wpAny _ _ (if(d==sysModules)=true then _ else(dictSetDefault d (.ref a) v >>= _)) _ _ s;rw[vc (by rw[i];exact vF)];exact uh (Fs m b f n (λp l=>ug ⟨p.2,rfl,g p l⟩) λj h' c e=>ug ⟨v,rfl,h j h' c e⟩)
def eR(h:Heap)(d:Addr)(es:Array DictEntry)(ep:Nat):Prop:=∃o,h.get? d=some o/\o.ExactDict/\o.data = .dict es ep
def eR.typeIs{d:Addr}{es:Array DictEntry}{ep:Nat}(x:eR s.heap d es ep):s.TypeIs (.ref d) "dict":=let ⟨o,ho,hc,_⟩:=x;⟨o,ho,hc.1⟩
def GO{d:Addr}{es:Array DictEntry}{ep:Nat}{Q:Nz}(f:(d==sysModules)=false)(b:eR s.heap d es ep)
  (e:Q (.ref s.heap.objs.size) {s with heap:=s.heap.push {cls:=.type "dict_keyiterator",data:=.fields #[.ref d,.int 0 0,.int es.size 0,.int ep 0]}}) :
  wpAny (model prog w) A (pyIter (.ref d)) Q E s:=by
 have T:=b.typeIs;let⟨o,c,g,a⟩:=b;refine wpAny_pyIter_slot T F.slot_dict_iter (wpAny_call_entry F.slot_dict_iter T F.entry_dict_iter ?_ (F.args_dict_iter_1 _));unfold Builtin.«dict.__iter__»;refine uh ?_;unfold Builtin.Dict.dictSlotNone;refine uh (wpAny_notOrdered_dict T ?_);show wpAny _ _ (pure (Value.ref d)) _ _ s;refine ug ?_;show wpAny _ _ (Builtin.Dict.showsAll d >>= _) _ _ s;unfold Builtin.Dict.showsAll;rw[vc (by rw[f];exact vF)];refine uh (ug ?_);refine uh (wpAny_dictEntries c a ?_);refine uh (wpAny_dictEpoch c a ?_);refine uh (wpAny_newObj_type (ug ⟨_,rfl,"dict_keyiterator",_,⟨_,Heap.get?_push_size _ rfl,rfl⟩,F.slot_dict_keyiterator_next.lookup,?_⟩));simpa [rawInt]using e
def GN{it d:Addr}{i ep:Nat}{es:Array DictEntry}{e:DictEntry}{Q:Option Value->Shared->Prop}(a:s.heap.IsKeyIter it d i es.size ep)(n:eR s.heap d es ep)(p:es[i]?=some e)
  (k:∀h',h'.IsKeyIter it d (i+1) es.size ep->Heap.SameBut it s.heap h'->Q (some e.key) {s with heap:=h'}):wpAny (model prog w) A (pyNext (.ref it)) Q E s:=by
 let⟨o,j,l,h⟩:=id a;let⟨q,f,m,c⟩:=n;unfold pyNext;refine uh (wpAny_attempt (wpAny_callSpecial?_slot (name:=Str.ofString "__next__") a.typeIs F.slot_dict_keyiterator_next (wpAny_call_entry F.slot_dict_keyiterator_next a.typeIs F.entry_dict_keyiterator_next ?_ (F.args_dict_keyiterator_next_1 _))));refine uh (ug ?_);refine uh ?_;refine uh ?_
 first | refine uh (wpAny_typeNameOfWhole_keyiter a.typeIs (ug ?_)) | refine uh (wpAny_typeNameOf_keyiter a.typeIs (ug ?_))
 refine uh (wpAny_fieldsOf j h ?_);have g:Builtin.Dict_items.ownsTuple "dict_keyiterator"= false:=by decide
 simp only[g,Bool.false_eq_true,if_false];show wpAny _ _ (if(Value.ref d==Value.none)=true then _ else _) _ _ s;rw[vc (show¬((Value.ref d==Value.none)=true)from vF)];refine uh (ug (uh (wpAny_dictEntries f c ?_)));rw[vc (by simp)];refine uh (ug (uh (wpAny_dictEpoch f c ?_)));rw[vc (by simp)];refine ug ?_;simp only[show¬((i:Int)<0)from ⋯,if_false,Int.toNat_natCast,p];refine uh ?_
 first | refine uh (wpAny_typeNameOfWhole_keyiter a.typeIs (ug ?_)) | refine uh (wpAny_typeNameOf_keyiter a.typeIs (ug ?_))
 refine uh (wpAny_isOneOf_keyiter a.typeIs ?_);show wpAny _ _ (setField (.ref it) 1 (rawInt ((i:Int)+1)) >>= _) _ _ s;refine uh (wpAny_setField j h (by simp) ?_);have b:(s.heap.update it (Obj.mapFields (·.setIfInBounds 1 (rawInt ((i:Int)+1))))).IsKeyIter it d (i+1) es.size ep:=
  ⟨_,Heap.get?_update_self _ j (Obj.isFreed_of_fields (Obj.data_mapFields h _)),(Obj.cls_mapFields ..).trans l,by rw[Obj.data_mapFields h];simp[rawInt]⟩
 refine uh (wpAny_holding ?_);refine uh (wpAny_isOneOf_keyiter (s:={s with heap:=s.heap.update it (Obj.mapFields (·.setIfInBounds 1 (rawInt ((i:Int)+1))))}) b.typeIs ?_);show wpAny _ _ (pure e.key) _ _ _;exact ug (ug ⟨_,rfl,ug (k _ b (Heap.SameBut.update ..))⟩)
def HW{it d:Addr}{ep:Nat}{es:Array DictEntry}{Q:Option Value->Shared->Prop}(l:A.handled=none)(c:s.heap.IsKeyIter it d es.size es.size ep)(n:eR s.heap d es ep)
  (j:∀h',Heap.ExtBut it s.heap h'->Q none {s with heap:=h'}):wpAny (model prog w) A (pyNext (.ref it)) Q E s:=by
 let⟨o,i,p,h⟩:=id c;let⟨q,f,k,e⟩:=n;unfold pyNext;refine uh (wpAny_attempt (wpAny_callSpecial?_slot (name:=Str.ofString "__next__") c.typeIs F.slot_dict_keyiterator_next (wpAny_call_entry F.slot_dict_keyiterator_next c.typeIs F.entry_dict_keyiterator_next ?_ (F.args_dict_keyiterator_next_1 _))));refine uh (ug ?_);refine uh ?_;refine uh ?_
 first | refine uh (wpAny_typeNameOfWhole_keyiter c.typeIs (ug ?_)) | refine uh (wpAny_typeNameOf_keyiter c.typeIs (ug ?_))
 refine uh (wpAny_fieldsOf i h ?_);have g:Builtin.Dict_items.ownsTuple "dict_keyiterator"= false:=by decide
 simp only[g,Bool.false_eq_true,if_false];show wpAny _ _ (if(Value.ref d==Value.none)=true then _ else _) _ _ s;rw[vc (show¬((Value.ref d==Value.none)=true)from vF)];refine uh (ug (uh (wpAny_dictEntries f e ?_)));rw[vc (by simp)];refine uh (ug (uh (wpAny_dictEpoch f e ?_)));rw[vc (by simp)];refine ug ?_;simp only[show¬((es.size:Int)<0)from ⋯,if_false,Int.toNat_natCast,Array.getElem?_eq_none (Nat.le_refl es.size)];refine uh ?_
 first | refine uh (wpAny_typeNameOfWhole_keyiter c.typeIs (ug ?_)) | refine uh (wpAny_typeNameOf_keyiter c.typeIs (ug ?_))
 show wpAny _ _ (setField (.ref it) 0 .none >>= _) _ _ s;refine uh (wpAny_setField i h (by simp) ?_);show wpAny _ _ (newExc (.type "StopIteration") [] >>= _) _ _ _;refine uh ?_;simp only[newExc,newTuple];refine uh (wpAny_newObj_type ?_ (by size_fits));refine uh (m:=firstArgMember _ _) (wpAny_of_eq (a:=Value.none) (by first | rfl | (simp only[firstArgMember];rfl)) ?_);refine wpAny_newObj_type ?_ (by size_fits);simp only[raiseNew];refine uh (wpAny_handled ?_);rw[show A.in1.handled=none from l];refine uh (ug (wpAny_throw ?_));refine uh (wpAny_isInstance (T:="StopIteration") (b:=true) ⟨_,Heap.get?_push_size _ rfl,rfl⟩ isSubtype_stop ?_);exact ug (j _ (((Heap.SameBut.update ..).extBut.push _).push _))
def eR.at'{h h':Heap}{d:Addr}{es:Array DictEntry}{ep:Nat}(x:eR h d es ep)(e:∀o,h.get? d=some o->h'.get? d=some o):eR h' d es ep:=let ⟨o,ho,r⟩:=x;⟨o,e _ ho,r⟩
def eR.lt{h:Heap}{d:Addr}{es:Array DictEntry}{ep:Nat}(x:eR h d es ep):d<h.objs.size:=let ⟨_,ho,_⟩:=x;vI ho
def Fo(q:A.handled=none)(I d:Addr)(m:d≠I)(es:Array DictEntry)(ep:Nat) :
  Walks prog w A I [I,d] [I] es.size (λi v=>∃e,es[i]?=some e/\v=e.key) (λi h=>h.IsKeyIter I d i es.size ep/\eR h d es ep) where
 sub:=λb c=>by simp at c;simp[c]
 frame:=λZ Z Z a p=>⟨a.1.at λo e=>p I (by simp) o e,a.2.at' λo e=>p d (by simp) o e⟩
 item:=λi s Q E n a f=>GN a.1 a.2 (Array.getElem?_eq_getElem n) λk g j=>
  f _ k s.toks ⟨_,Array.getElem?_eq_getElem n,rfl⟩ ⟨g,a.2.at' λo e=>j.extBut d o m e⟩ λb o c e=>j.extBut b o (λh=>c (by simp[h])) e
 done:=λs Q E a f=>HW q a.1 a.2 λk l=>f k s.toks λb o c e=>l b o (λh=>c (by simp[h])) e
 self:=λZ Z Z Z a f=>wpAny_pyIter_keyiter a.1 f
def HX{d:Addr}{es:Array DictEntry}{ep:Nat}(lo:(d==sysModules)=false):KdlSrc prog w "dict" d d es.size (λi v=>∃e,es[i]?=some e/\v=e.key) (λh=>eR h d es ep) where
 type:=λq a=>a.typeIs
 there:=λq a=>⟨a.lt,a.lt⟩
 keep:=λq q a f=>a.at' λo e=>f d (.inl rfl) o e
 notList:=by decide
 notTuple:=by decide
 hint:=λq q q q a b=>kdl_hint_dict a.typeIs b
 iter:=λq q c a=>⟨_,_,(λq q b=>GO lo a b),Fo c _ d (vE a.lt) es ep,⟨⟨_,Heap.get?_push_size _ rfl,rfl,rfl⟩,a.at' λo e=>vJ _ e⟩⟩
end
inductive pU(H:Hp):N2->NK->Prop
 | nil:pU H [] []
 | key {k:Key} {vs:N2} {ks:NK}:pU H vs ks->pU H (kV k::vs) (Sum.inl k::ks)
 | tup {b:Addr} {kk:List Key} {vs:N2} {ks:NK}:H b=some (.tup (kk.map kV))->pU H vs ks->pU H (.ref b::vs) (Sum.inr kk::ks)
def pT(H:Hp)(b:Addr)(ks:NK):Prop:=∃vs,H b=some (.tup vs)/\pU H vs ks
section
variable{P:Program}{w:World}{H:Hp}{h:Heap}
theorem zz(a:eN P w H h):∀{vs:N2} {ks:NK} {us:L9},pU H vs ks->Vals vs us->gW P w h ks us
 | _,_,_,.nil,r=>by cases r;exact .nil
 | _,_,_,.key t,r=>by
  cases r with
  | cons r1 r2=>exact .key (xg (P:=P) (w:=w) r1) (zz a t r2)
 | _,_,_,.tup e t,r=>by
  cases r with
  | cons r1 r2=>
   cases r1;exact .tup (Wa a e) (zz a t r2)
def CW{b:Addr}{ks:NK}(c:eN P w H h)(x:pT H b ks):og P w h ks b:=by
 let⟨i,e,n⟩:=x;let⟨q,a,r,o,d,f,m,g⟩:=(show cf P w H h b (.tup i)from c b _ e)
 exact⟨o,a.toArray,m,d,f,g,#v[zz c n r]⟩
end
noncomputable abbrev NE:=NK×Addr×V
noncomputable def lG(P:Program)(w:World)(a:Addr)(xs:List NE):HO:=.ext λh=>⇑xs<=sizeLine/\(a==sysModules)=false/\(xs.map (·.1)).Nodup/\∃ys:List (NK×Addr×Value),
 Paired (λ(p:NE) (q:NK×Addr×Value)=>p.1=q.1/\p.2.1=q.2.1/\RelV p.2.2 q.2.2) xs ys/\∃es ep,eR h a es ep/\es.toList=ys.map (entryOfKey (eV P w))
section
variable{P:Program}{w:World}{H:Hp}{h:Heap}{a:Addr}{xs:List NE}
def Dh(z:⇑xs<=sizeLine)(c:(a==sysModules)=false)(d:(xs.map (·.1)).Nodup){ys:List (NK×Addr×Value)}(r:Paired (λ(p:NE) (q:NK×Addr×Value)=>p.1=q.1/\p.2.1=q.2.1/\RelV p.2.2 q.2.2) xs ys)
  {es:Array DictEntry} {ep:Nat} (b:eR h a es ep) (e:es.toList=ys.map (entryOfKey (eV P w))):cf P w H h a (lG P w a xs):=by
 refine⟨⟨z,c,d,ys,r,es,ep,b,e⟩,let ⟨o,ho,_⟩:=b;⟨o,ho⟩,?_⟩;rintro f g ⟨z,c,d,ys,r,es,ep,b,e⟩ k;exact⟨z,c,d,ys,r,es,ep,b.at' k,e⟩
def ji(xs:List NE)(ys:List (NK×Addr×Value)):Prop:=Paired (λ(p:NE) (q:NK×Addr×Value)=>p.1=q.1/\p.2.1=q.2.1/\RelV p.2.2 q.2.2) xs ys
theorem ji.keys:∀{xs:List NE} {ys:List (NK×Addr×Value)},ji xs ys->ys.map (·.1)=xs.map (·.1)
 | _,_,.nil=>rfl
 | _,_,.cons r t=>by rw[v9,v9,r.1,ji.keys t]
def ji.length{xs:List NE}{ys:List (NK×Addr×Value)}(r:ji xs ys):⇑xs=⇑ys:=by
 have:=congrArg List.length r.keys
 simp_all
theorem ji.snoc{k:NK}{b:Addr}{v:V}{u:Value}(a:RelV v u):∀{xs:List NE} {ys:List (NK×Addr×Value)},ji xs ys->ji (xs++[(k,b,v)]) (ys++[(k,b,u)])
 | _,_,.nil=>.cons ⟨rfl,rfl,a⟩ .nil
 | _,_,.cons r t=>.cons r (ji.snoc a t)
theorem ji.all{F:NK->Addr->Prop}:∀{xs:List NE} {ys:List (NK×Addr×Value)},ji xs ys->(∀p∈xs,F p.1 p.2.1)->∀q∈ys,F q.1 q.2.1
 | _,_,.nil,_=>λq b=>nomatch b
 | _,_,.cons (a:=x) r t,h=>λq b=>by
  rcases mem_cons.mp b with rfl | b
  .simp_all
  .exact ji.all t (λp c=>h p (vp _ c)) q b
theorem ji.rK{k:NK}:∀{xs:List NE} {ys:List (NK×Addr×Value)},ji xs ys->(∀p,xs.find? (λp=>decide (p.1=k))=some p->∃u,atKey ys k=some (p.2.1,u)/\RelV p.2.2 u)/\(xs.find? (λp=>decide (p.1=k))=none->atKey ys k=none)
 | _,_,.nil=>⟨λp e=>by simp at e,λj=>rfl⟩
 | _,_,.cons (a:=x) (b:=y) (l₂:=m) r t=>by
  let⟨d,f⟩:=ji.rK (k:=k) t;by_cases e:x.1=k
  .have c:y.1=k:=r.1▸e;refine⟨λp q=>?_,λq=>?_⟩
   .rw[List.find?_cons,vG e]at q;cases q;refine⟨y.2.2,?_,r.2.2⟩;unfold atKey
    simp_all
   simp_all
  .have c:¬y.1=k:=r.1▸e;have z:atKey (y::m) k=atKey m k:=by
    unfold atKey
    simp_all
   refine⟨λp q=>?_,λq=>?_⟩
   .rw[List.find?_cons,vH e]at q;rw[z];exact d p q
   .rw[List.find?_cons,vH e]at q;rw[z];exact f q
end
section
variable{X:Cx}
def nR(P:Program)(w:World):TE:=λq H Q=>∀p,H p=none->Q (.ref p) (upd H p (lG P w p []))
def Hg{b:Pos}:PE X (.Dict [] [] b) (nR X.prog X.w):=λc s d H Q I h=>
 wpAny_Dict_empty ⟨.ref s.heap.objs.size,_,I.laid (a:=s.heap.objs.size) (o:=lG X.prog X.w s.heap.objs.size []) (t':=s.toks) (λj j q=>vJ _ q) (vb _)
  (Dh (va _) (beq_eq_false_iff_ne.mpr (Ne.symm (vE I.big))) nodup_nil .nil (es:=#[]) (ep:=0) ⟨_,Heap.get?_push_size _ rfl,⟨rfl,rfl,rfl⟩,rfl⟩ rfl),rfl,h _ (I.cw.fresh (vb _))⟩
def GP{P:Program}{w:World}{a:St}{H:Hp}{Q:VK}(h:∀p,H p=none->Q (.ref p) (upd H p (lG P w p []))):nR P w a H Q:=h
def uA{b:Ny}{c:St}{H:Hp}{s:Shared}{a:Addr}{xs:List NE}(I:Inv X b c H s)(e:H a=some (lG X.prog X.w a xs)):⇑xs<=sizeLine/\(a==sysModules)=false/\(xs.map (·.1)).Nodup/\∃ys,ji xs ys/\∃es ep,eR s.heap a es ep/\es.toList=ys.map (entryOfKey (eV X.prog X.w)):=
 (show cf X.prog X.w H s.heap a (lG X.prog X.w a xs)from I.cw a _ e).1
def pJ(P:Program)(w:World)(to:TE)(t:TA):TE:=λσ H Q=>to σ H λx H1=>∃a xs1,x = .ref a/\H1 a=some (lG P w a xs1)/\t σ H1 λvs H2=>∃(xs:List NE) (b:Addr) (k:NK) (v:V),vs=[.ref b,v]/\H2 a=some (lG P w a xs)/\(∀p∈xs,pT H2 p.2.1 p.1)/\pT H2 b k/\⇑xs<sizeLine/\
 (∀p,xs.find? (λp=>decide (p.1=k))=some p->Q p.2.2 H2)/\(xs.find? (λp=>decide (p.1=k))=none->Q v (upd H2 a (lG P w a (xs++[(k,b,v)]))))
def HM{o e:Expr}{es:Nt}{to:TE}{t:TA}{f c:Pos}(hu:X.A.units+64<cLine)(ho:PE X o to)(ha:PA X (e::es) t)
  (i:attributeBase o "setdefault" X.env (eval o X.env)=eval o X.env:=by rfl)
  (y:((backTo c (starEach (e::es) X.env)).all (λx=>!x.1)&&(backToKw c (keywordEach [] X.env)).all (λx=>x.1.isSome)
   && decide (⇑(e::es)+⇑([]:List Keyword)+(if([]:List Keyword).isEmpty then 0 else 1)<30))=true:=by rfl)
  (l:(f.endLine==c.line)=true:=by rfl) (hs:starEach (e::es) X.env=(false,eval e X.env)::starEach es X.env:=by rfl) (d:(backTo c (starEach es X.env)).any (·.1)=false:=by rfl) :
  PE X (.Call (.Attribute o "setdefault" f) (e::es) [] c) (pJ X.prog X.w to t):=by
 intro g s σ H Q I h;refine wpAny_Call_method_late i y l rfl (cv (ho g s σ H _ I h) λv s1 z_=>?_);obtain⟨x,H1,W,r1,a,a2,ex,e1,q1⟩:=z_;subst ex;cases r1;let⟨_,_,_,_,_,_,_,C,_⟩:=uA W e1;refine⟨"dict","dict.setdefault",q7,PySem.F.slot_dict_setdefault,PySem.F.type_dict_setdefault,C.typeIs,λb eb=>?_,?_⟩
 .cases eb;let⟨ob,h1,h2,_⟩:=C;exact⟨ob,h1,h2.2.1⟩
 have hA:=ha c g s1 σ H1 _ W q1;rw[hs]at hA|-;refine Calls.callWith_builtin (by show(false||(backTo c (starEach es X.env)).any (·.1))=false;rw[d]<;>rfl) (Calls.evalArgs_plain ?_);refine cv hA λus T z_=>?_;obtain⟨vs,H2,w,r2,U,b,k,v,ev,Y,E,nb,z,f1,f2⟩:=z_
 subst ev;cases r2 with
 | cons rb rr=>
  cases rb;let⟨u,rfl,ru⟩:=vals1 rr;let⟨z2,hd,hn,ys,r,J,ep,D,he⟩:=uA w Y;have T2:=D.typeIs;let⟨o2,P,K,M⟩:=D;have dd:T.heap.DictOfH (eV X.prog X.w) a ys:=⟨o2,J,ep,P,K,M,he,λq hq=>r.all (F:=λk b=>og X.prog X.w T.heap k b) (λp n=>CW w.cw (E p n)) q hq,by rw[r.keys];exact hn⟩
  have ln:=⇑r;let⟨Z,g2⟩:=r.rK (k:=k);refine call_meetsIn PySem.F.slot_dict_setdefault T2 PySem.F.entry_dict_setdefault (PySem.F.args_dict_setdefault_3 _ _ _) (EV (knd:=eV X.prog X.w) a b hd u) ⟨by show X.A.units+1+60<cLine;lia,k,ys,CW w.cw nb,dd,⋯,λp n=>?_,λno h' G R=>?_⟩
  .cases j:U.find? (λp=>decide (p.1=k))with
   | none=>rw[g2 j]at n;cases n
   | some p'=>
    let⟨u',m,S⟩:=Z p' j;rw[m]at n;cases n;exact⟨p'.2.2,H2,w.tok _,S,f1 p' j⟩
  .have j:U.find? (λp=>decide (p.1=k))=none:=by
    cases j:U.find? (λp=>decide (p.1=k))with
    | none=>rfl
    | some p'=>
     let⟨u',m,_⟩:=Z p' j;rw[m]at no;cases no
   let⟨o3,a1,a0,B,L,N,O,_,A⟩:=G;rw[vj,r.keys]at A;refine⟨v,_,YD (t':=T.toks+_) w (by rw[Y];exact True.intro) R ⟨_,B⟩ (Dh (by rw[vn,vS];lia) hd (by rw[vj];exact A) (r.snoc ru) ⟨o3,B,L,N⟩ O),ru,f2 j⟩
def HZ{P:Program}{w:World}{e:TE}{t:TA}{d:St}{H:Hp}{Q:VK} (h:e d H λx H1=>∃a c,x = .ref a/\H1 a=some (lG P w a c)/\t d H1 λvs H2=>∃(xs:List NE) (b:Addr) (k:NK) (v:V),vs=[.ref b,v]/\H2 a=some (lG P w a xs)/\(∀p∈xs,pT H2 p.2.1 p.1)/\pT H2 b k/\⇑xs<sizeLine/\
 (∀p,xs.find? (λp=>decide (p.1=k))=some p->Q p.2.2 H2)/\(xs.find? (λp=>decide (p.1=k))=none->Q v (upd H2 a (lG P w a (xs++[(k,b,v)]))))):pJ P w e t d H Q:=h
def FF:cV X (.builtin "len") (λxs H Q=>∃a ys,xs=[V.ref a]/\H a=some (lG X.prog X.w a ys)/\Q (.int ⇑ys) H):=by
 intro f s E H xs B Q I r h;let⟨a,ys,rfl,i,q⟩:=h;let⟨u,rfl,w⟩:=vals1 r;cases w;let⟨z,l,A,C,v,j,x,c,n⟩:=uA I i;have T:=c.typeIs;let⟨o,p,y,b⟩:=c;have t:j.size=⇑ys:=by rw[<-Array.length_toList,n,vt,⇑v]
 have D:=sizeLine_eq;refine Calls.call_function_entry kind_len plain_len entry_len (args_len1 _) ?_;unfold Builtin.«len»;refine uh (m:=oneArg "len" _) (ug ?_);have d:wpAny (model X.prog X.w) X.A.in1 (callSpecial? (.ref a) (Str.ofString "__len__")) (λr g=>r=some (.int ⇑ys s.toks)/\g={s with toks:=s.toks+1}) X.xe s:=by
  refine wpAny_callSpecial?_slot (name:=Str.ofString "__len__") T F.slot_dict_len (wpAny_call_entry F.slot_dict_len T F.entry_dict_len ?_ (F.args_dict_len_1 _));show wpAny _ _ (dictSize a >>= _) _ _ s;unfold dictSize;refine uh (uh (wpAny_dictEntries p b (ug ?_)));show wpAny _ _ (Builtin.Dict.pendingCount a >>= _) _ _ s;refine uh (wpAny_pendingCount_other l ?_);refine wpAny_ret_mkInt ?_;rw[Nat.add_zero,t];exact⟨rfl,rfl⟩
 refine uh (wpAny_mono d (λr g k=>?_) λZ Z e=>e);let⟨rfl,rfl⟩:=k;show wpAny _ _ _ _ _ {s with toks:=s.toks+1};refine uh (wpAny_holding (ug ?_));refine uh (wpAny_letGo ?_);show wpAny _ _ (if((⇑ys:Nat):Int)<0 then _ else _) _ _ _;rw[vc ⋯];show wpAny _ _ (if((⇑ys:Nat):Int)>=2^63 then _ else _) _ _ _;rw[vc ⋯];exact uh (wpAny_mkInt (ug ⟨_,rfl,.int ⇑ys,H,I.tok _,⟨_,rfl⟩,q⟩))
def EO(D:X.calm=true):cV X (.type "list") (λxs H Q=>∃(a:Addr) (ys:List NE),xs=[.ref a]/\H a=some (lG X.prog X.w a ys)/\∀l,H l=none->Q (.ref l) (upd H l (.lst (ys.map λq=>.ref q.2.1)))):=by
 intro w s R H xs P Q I r h;let⟨a,ys,rfl,B,q⟩:=h;let⟨u,rfl,J⟩:=vals1 r;cases J;let⟨z,E,N,g,k,es,ep,m,o⟩:=uA I B;have G:es.size=⇑ys:=by rw[<-Array.length_toList,o,vt,⇑k]
 refine kdl_call (HX (es:=es) (ep:=ep) E) (I.ok.hd D) m ⋯ λC L b A F M c=>?_
 have K:Vals (ys.map λq=>.ref q.2.1) b.toList:=CN (by rw[Array.length_toList,vt,<-G];exact c.1) λj u O=>by
  let⟨e,d,rfl⟩:=c.2 j u (by simp_all);rw[<-Array.getElem?_toList,o,vv]at d;let⟨y,n,rfl⟩:=vg.mp d;have v:j<⇑ys:=by rw[⇑k];exact(vx.mp n).1
  have i:∀{xs:List NE} {g:List (NK×Addr×Value)} {j:Nat} {y:NK×Addr×Value} {x:NE},ji xs g->g[j]?=some y->xs[j]?=some x->x.2.1=y.2.1:=by
   intro xs g j y x p
   induction p generalizing j with
   | nil=>intro e;simp at e
   | cons r t ih=>
    cases j with
    | zero=>intro d f;simp at d f;subst d f;exact r.2.1
    | succ j=>intro d f;exact ih #v[d] #v[f]
  refine⟨.ref ys[j].2.1,by rw[vv,vz v];rfl,?_⟩;rw[i k n (vz v)];rfl
 refine⟨.ref s.heap.objs.size,_,I.laid (t':=L) F (vb _) (show cf X.prog X.w _ C _ (.lst (ys.map λq=>.ref q.2.1))from⟨by rw[vt];exact z,b.toList,A,K,by simp_all⟩),rfl,q _ (I.cw.fresh (vb _))⟩
def Aa{K:cg}(e:X.K=K)(p:X.A.units+1<cLine):pR X (λx y H Q=>nK K x y H Q\/∃a v,x = .ref a/\cM H a y (some v)/\Q v H):=by
 subst e;intro c b d s n H x y v u Q I l m h k;rcases h with h | ⟨a,t,rfl,g,q⟩
 .exact jw c b d s n H x y v u Q I l m h k
 .cases l;have T:=KW I g;unfold subscriptTail;refine uh ?_;rw[getitemInPython_of_ne T.not_modules];refine uh (wpAny_specialOf T PySem.F.slot_dict_getitem.lookup ?_);have f:wpAny (model X.prog X.w) X.A (subscripted b false (.ref a) u) (λr i=>wpAny (model X.prog X.w) X.A (letTemporaryGo c (.ref a) r >>= λZ=>pure r) (EP X d n Q) X.xe i) X.xe s:=by
   rw[k];exact wpAny_operating (W7 p I g m λz w o j=>uh (wpAny_letTemporaryGo (ug ⟨t,H,o,j,q⟩)))
  first
   | exact ug (uh f)
   | exact uh (ug (uh f))
   | exact uh f
end
theorem pb{P:Program}{w:World}:∀{ks:L5} {us:L9},⇑us=⇑ks->(∀(j:Nat) (u:Value) (k:Int),us[j]?=some u->ks[j]?=some k->(bR P w).is (Sum.inl k) u=true)->IntsAre us ks
 | [],[],_,_=>.nil
 | [],_::_,h,_=>by simp at h
 | _::_,[],h,_=>by simp at h
 | k::ks,u::us,h,q=>by
  let⟨t,rfl⟩:=Value.isInt_shape (k:=k) (q 0 u k rfl rfl);exact .cons k t (pb (P:=P) (w:=w) #v[h] λj u k b a=>q (j+1) u k #v[b] #v[a])
def WA{X:Cx}(U:X.calm=true):cV X (.builtin "sorted") (λxs H Q=>∃(d:Addr) (kvs:List (Key×V)) (ks:L5),xs=[.ref d]/\H d=some (.dK kvs)/\kvs.map (·.1)=ks.map Sum.inl/\⇑ks<64/\∀(l:Addr) (ms:L5),H l=none->ms.Perm ks->ms.Pairwise (·<=·)->Q (.ref l) (upd H l (.lst (ms.map V.int)))):=by
 intro J s σ H xs us Q I r h;let⟨d,kvs,ks,rfl,O,Z,R,q⟩:=h;let⟨u,rfl,ru⟩:=vals1 r;cases ru;let⟨z1,t,v,K,n⟩:=wN I.cw O;let⟨ep,p⟩:=n.dictAt;have F:⇑kvs=⇑ks:=by have:=congrArg List.length Z;rw[vt,vt]at this;exact this
 have vl:=⇑K;refine Calls.call_function_entry kind_sorted plain_sorted entry_sorted (args_sorted1 _) ?_;unfold Builtin.«sorted»;refine uh (m:=checkCount "sorted" 1 1 _) (ug ?_);refine uh (kdu_collect (A:=X.A.in1) (kdl_dict (knd:=bR X.prog X.w) (kvs:=v) (ep:=ep) t) (I.ok.hd U) p ⋯ λi tk a c f=>?_);have B:⇑a.toList=⇑ks:=by rw[Array.length_toList,f.1,<-vl,F]
 have S:IntsAre a.toList ks:=pb (P:=X.prog) (w:=X.w) B λj u k hu Y=>by
  let⟨k',x,e,a0⟩:=f.2 j u (by simp_all);have E:j<⇑kvs:=by rw[F];exact(vx.mp Y).1
  let⟨y,C,N,_⟩:=K.get (vz E);rw[e]at C;cases C;have e4:(kvs.map (·.1))[j]?=some k':=by rw[vv,vz E];exact congrArg some N
  simp_all
 refine uh (wpAny_newList ?_ (by rw[B,sizeLine_eq];lia));have g:(i.push (seqObj "list" a.toList.toArray 0)).get? i.objs.size=some (seqObj "list" a.toList.toArray 0):=Heap.get?_push_size _ rfl;refine uh (wpAny_holding (wpAny_call_entry slot_list_sort ⟨_,g,rfl⟩ entry_list_sort (list_sort_tree g S ⋯ λout ms L z M=>⟨_,rfl,?_⟩) (args_list_sort _)));refine ug ⟨_,rfl,?_⟩;have ml:⇑ms=⇑ks:=z.length_eq;have D:=I.mj c;have T:=I.sS c;have k2:∀b o,s.heap.get? b=some o->(sortedHeap (i.push (seqObj "list" a.toList.toArray 0)) i.objs.size a.toList out).get? b=some o:=λb o e=>by
  have G:=vI (c b o e);rw[sortedHeap_old (vE G) (by rw[size_push'];exact Nat.lt_succ_of_lt G)];exact vJ _ (c b o e)
 let⟨e',W⟩:=sortedHeap_at (out:=out) g;refine⟨.ref i.objs.size,_,(I.kept (t':=tk) k2).pL D T (show cf X.prog X.w _ _ _ (.lst (ms.map V.int))from⟨by simp_all,out.toList,_,Ht L,by rw[Array.toArray_toList];exact W⟩),rfl,q _ ms D z M⟩
end L2
namespace Rm
open PySem PySem.Spec PyProof.Rows L2
inductive Gv where
 | mX (r:Bool) (vs:N2) | rise (x h n:V) | again (k x:V) | many (s:Bool) (xs:N2)
noncomputable def g5(H:Hp)(a:Addr):Gv->Prop
 | .mX r vs=>H a=some (.tup (.str (if r then "ring" else "hold")::vs))
 | .rise x h n=>H a=some (.tup [.str "raise",x,h,n])
 | .again k x=>H a=some (.tup [.str "again",k,x])
 | .many s xs=>∃b,H a=some (.tup [.str (if s then "side" else "row"),.ref b])/\H b=some (.tup xs)
def g5.same{H H':Hp}{a:Addr}{g:Gv}(s:bI H H')(h:g5 H a g):g5 H' a g:=by
 cases g with
 | mX r vs=>exact s _ _ h
 | rise x g n=>exact s _ _ h
 | again k x=>exact s _ _ h
 | many t xs=>let⟨b,c,d⟩:=h;exact⟨b,s _ _ c,s _ _ d⟩
def g5.dM{H H':Hp}{a:Addr}{g:Gv}(s:∀b xs,H b=some (.tup xs)->H' b=some (.tup xs))(h:g5 H a g):g5 H' a g:=by
 cases g with
 | mX r vs=>exact s _ _ h
 | rise x g n=>exact s _ _ h
 | again k x=>exact s _ _ h
 | many t xs=>let⟨b,c,d⟩:=h;exact⟨b,s _ _ c,s _ _ d⟩
def Itm(H:Hp)(l:Addr)(x y:V):Prop:=(∃xs i,H l=some (.lst xs)/\x = .int i/\d0 xs i=some y)\/cM H l x (some y)
def Xo{K:cg}{H:Hp}{l:Addr}{x y:V}{Q:VK}(h:Itm H l x y)(q:Q y H):nK K (.ref l) x H Q\/∃a v,V.ref l = .ref a/\cM H a x (some v)/\Q v H:=by
 rcases h with⟨b,i,e,rfl,h⟩ | h
 .exact .inl ⟨l,b,i,y,rfl,rfl,bK.of e,h,q⟩
 .exact .inr ⟨l,y,rfl,h,q⟩
def Itm.same{H H':Hp}{l:Addr}{x y:V}(s:bI H H')(h:Itm H l x y):Itm H' l x y:=by
 rcases h with⟨g,i,e,rfl,h⟩ | h
 .exact .inl ⟨g,i,s _ _ e,rfl,h⟩
 .refine .inr ?_;rcases h with⟨a,k,e,c,d⟩ | ⟨a,k,b,e,c,d,f⟩
  .exact .inl ⟨a,k,e.imp (λe=>s _ _ e) λ⟨o,e⟩=>⟨o,s _ _ e⟩,c,d⟩
  .exact .inr ⟨a,k,b,e.imp (λe=>s _ _ e) λ⟨o,e⟩=>⟨o,s _ _ e⟩,c,s _ _ d,f⟩
noncomputable def lQ(H:Hp)(l p:Addr):Gv->Gv->Prop
 | .mX r vs,g=>g = .mX r vs
 | .rise x h n,g=>∃y,Itm H l x y/\g = .rise y h n
 | .again k x,g=>∃y,Itm H p x y/\g = .again k y
 | .many s xs,g=>∃ys,⇑ys=⇑xs/\(∀(i:Nat) (x y:V),xs[i]?=some x->ys[i]?=some y->Itm H p x y)/\⇑xs<=8/\g = .many s ys
inductive fc(vs:N2)(H:Hp)(Q:VK)(xk:XK):Prop
 | mk (a l p g g'):vs=[.ref a,.ref l,.ref p]->g5 H a g->lQ H l p g g'->(∀(b:Addr) (H':Hp),bI H H'->g5 H' b g'->Q (.ref b) H')->fc vs H Q xk
noncomputable def Gv.ns:Gv->N2
 | .again _ x=>[x]
 | .many _ xs=>xs
 | _=>[]
inductive fu(vs:N2)(H:Hp)(Q:VK)(xk:XK):Prop
 | mk (a) (g:Gv):vs=[.ref a]->g5 H a g->(∀(b:Addr) (H':Hp),bI H H'->H' b=some (.tup g.ns)->Q (.ref b) H')->fu vs H Q xk
noncomputable def gF:Fm->Gv
 | .hold n=>.mX false [.int n]
 | .ring x n=>.mX true [.str x,.int n]
 | .rise x h n=>.rise (.str x) (.int h) (.int n)
 | .row ps=>.many false (ps.map V.str)
 | .side ps=>.many true (ps.map V.str)
 | .again k x=>.again (.int k) (.str x)
def wW{H:Hp}{a:Addr}{f:Fm}:bN H a f↔g5 H a (gF f):=by
 cases f<;>exact Iff.rfl
inductive Dm where
 | hold (n:Int) | ring (x:Str) (n:Int) | rise (l:Nat) (h n:Int) | row (ps:L6) | side (ps:L6) | again (k:Int) (p:Nat)
 deriving DecidableEq
noncomputable def gD:Dm->Gv
 | .hold n=>.mX false [.int n]
 | .ring x n=>.mX true [.str x,.int n]
 | .rise l h n=>.rise (.int l) (.int h) (.int n)
 | .row ps=>.many false (ps.map vN)
 | .side ps=>.many true (ps.map vN)
 | .again k p=>.again (.int k) (.int p)
noncomputable def Dm.ns:Dm->L6
 | .row ps=>ps
 | .side ps=>ps
 | .again _ p=>[p]
 | _=>[]
def LY(d:Dm):(gD d).ns=d.ns.map vN:=by cases d<;>rfl
noncomputable def iK(n:Nat):Key:=Sum.inl (n:Int)
noncomputable def kD:Dm->NK
 | .hold n=>[Sum.inl (Sum.inr "hold"),Sum.inl (Sum.inl n)]
 | .ring x n=>[Sum.inl (Sum.inr "ring"),Sum.inl (Sum.inr x),Sum.inl (Sum.inl n)]
 | .rise l h n=>[Sum.inl (Sum.inr "raise"),Sum.inl (iK l),Sum.inl (Sum.inl h),Sum.inl (Sum.inl n)]
 | .row ps=>[Sum.inl (Sum.inr "row"),Sum.inr (ps.map iK)]
 | .side ps=>[Sum.inl (Sum.inr "side"),Sum.inr (ps.map iK)]
 | .again k p=>[Sum.inl (Sum.inr "again"),Sum.inl (Sum.inl k),Sum.inl (iK p)]
theorem Xl:∀{a b:L6},a.map iK=b.map iK->a=b
 | [],[],_=>rfl
 | [],_::_,h=>by simp at h
 | _::_,[],h=>by simp at h
 | x::a,y::b,h=>by
  rw[v9,v9]at h;injection h with h1 h2;have:(x:Int)=y:=Sum.inl.inj h1;rw[Xl h2,show x=y by lia]
def Q9{x y:Str}{r s:NK}(h:(Sum.inl (Sum.inr x):NI)::r=Sum.inl (Sum.inr y)::s):x=y/\r=s:=by
 injection h with h1 h2;exact⟨Sum.inr.inj (Sum.inl.inj h1),h2⟩
def IW{d e:Dm}(h:kD d=kD e):d=e:=by
 cases d with
 | hold n=>
  cases e with
  | hold m=>
   have:=(Q9 h).2
   lia
  | _=>exact uf (Q9 h).1 ∅
 | ring x n=>
  cases e with
  | ring y m=>
   have:=(Q9 h).2
   lia
  | _=>exact uf (Q9 h).1 ∅
 | rise l v n=>
  cases e with
  | rise l' v' m=>
   have:=(Q9 h).2;injection this with h1 h2;injection h2 with h2 h3;injection h3 with h3;have e:(l:Int)=l':=Sum.inl.inj (Sum.inl.inj h1);rw[Sum.inl.inj (Sum.inl.inj h2),Sum.inl.inj (Sum.inl.inj h3),show l=l' by lia]
  | _=>exact uf (Q9 h).1 ∅
 | row ps=>
  cases e with
  | row qs=>
   have:=(Q9 h).2;injection this with h1;rw[Xl (Sum.inr.inj h1)]
  | _=>exact uf (Q9 h).1 ∅
 | side ps=>
  cases e with
  | side qs=>
   have:=(Q9 h).2;injection this with h1;rw[Xl (Sum.inr.inj h1)]
  | _=>exact uf (Q9 h).1 ∅
 | again k p=>
  cases e with
  | again k' p'=>
   have:=(Q9 h).2;injection this with h1 h2;injection h2 with h2;have e:(p:Int)=p':=Sum.inl.inj (Sum.inl.inj h2);rw[Sum.inl.inj (Sum.inl.inj h1),show p=p' by lia]
  | _=>exact uf (Q9 h).1 ∅
def Co(ps:L6):(ps.map iK).map kV=ps.map vN:=by rw[v6];rfl
def Dp{H:Hp}{a:Addr}{d:Dm}(h:g5 H a (gD d)):pT H a (kD d):=by
 cases d with
 | hold n=>exact⟨_,h,.key (k:=Sum.inr "hold") (.key (k:=Sum.inl n) .nil)⟩
 | ring x n=>exact⟨_,h,.key (k:=Sum.inr "ring") (.key (k:=Sum.inr x) (.key (k:=Sum.inl n) .nil))⟩
 | rise l v n=>exact⟨_,h,.key (k:=Sum.inr "raise") (.key (k:=Sum.inl (l:Int)) (.key (k:=Sum.inl v) (.key (k:=Sum.inl n) .nil)))⟩
 | row ps=>let⟨b,c,e⟩:=h;exact⟨_,c,.key (k:=Sum.inr "row") (.tup (by rw[Co];exact e) .nil)⟩
 | side ps=>let⟨b,c,e⟩:=h;exact⟨_,c,.key (k:=Sum.inr "side") (.tup (by rw[Co];exact e) .nil)⟩
 | again k p=>exact⟨_,h,.key (k:=Sum.inr "again") (.key (k:=Sum.inl k) (.key (k:=Sum.inl (p:Int)) .nil))⟩
noncomputable def l0(lx px:L8)(ns:L6):Fm->Dm
 | .hold n=>.hold n
 | .ring x n=>.ring x n
 | .rise x h n=>.rise (cn lx x) h n
 | .row qs=>.row (qs.map λx=>ns.getD (cn px x) 0)
 | .side qs=>.side (qs.map λx=>ns.getD (cn px x) 0)
 | .again k x=>.again k (ns.getD (cn px x) 0)
noncomputable def cQ(lx px:L8)(st:List Dm×L6)(p:Str×Fm):List Dm×L6:=
 let d:=l0 lx px st.2 p.2
 if d∈st.1 then(st.1,st.2++[st.1.idxOf d])else(st.1++[d],st.2++[⇑st.1])
noncomputable def bW(lx px:L8)(ps:N1):List Dm×L6:=ps.foldl (cQ lx px) ([],[])
def qE(lx px:L8)(ps:N1)(p:Str×Fm):bW lx px (ps++[p])=cQ lx px (bW lx px ps) p:=by
 unfold bW;rw[foldl_append];rfl
structure uQ(ks:List Dm)(ns:L6)(n:Nat):Prop where
 nd:ks.Nodup
 ln:⇑ns=n
 lk:⇑ks<=n
 lt:∀k∈ns,k<⇑ks
theorem KZ(lx px:L8):∀(n:Nat) (ps:N1),⇑ps=n->uQ (bW lx px ps).1 (bW lx px ps).2 n
 | 0,ps,h=>by
  rw[List.length_eq_zero_iff.mp h];exact⟨nodup_nil,rfl,vb _,λk h=>nomatch h⟩
 | n+1,ps,h=>by
  obtain⟨b,p,rfl⟩:∃b p,ps=b++[p]:=⟨ps.dropLast,ps.getLast (λz=>by rw[z]at h;cases h),(List.dropLast_concat_getLast _).symm⟩
  rw[vn,vS]at h;let⟨d,f,e,c⟩:=KZ lx px n b ⋯;rw[qE];generalize bW lx px b=st at d f e c;unfold cQ;dsimp only;split
  .rename_i hd;refine⟨d,by simp_all,by show ⇑st.1<=n+1;lia,λk a=>?_⟩;rcases vh.mp a with a | a
   .exact c k a
   .rw[vo.mp a];exact idxOf_lt_length_of_mem hd
  .rename_i hd;refine⟨nodup_append.mpr ⟨d,by simp,λx g y i z=>hd (by simp_all)⟩,by simp_all,by simp_all,λk a=>?_⟩;show k<⇑(st.1++[_]);rw[vn,vS];rcases vh.mp a with a | a
   .have:=c k a;lia
   .rw[vo.mp a];lia
def gV(H:Hp)(xs:List NE)(ks:List Dm):Prop:=⇑xs=⇑ks/\∀(i:Nat) (d:Dm),ks[i]?=some d->∃a,xs[i]?=some (kD d,a,.int i)/\g5 H a (gD d)
def gV.dM{H H':Hp}{xs:List NE}{ks:List Dm}(e:gV H xs ks)(s:∀b xs,H b=some (.tup xs)->H' b=some (.tup xs)):gV H' xs ks:=⟨e.1,λi d h=>let ⟨a,h1,h2⟩:=e.2 i d h;⟨a,h1,h2.dM s⟩⟩
def gV.nat{H:Hp}{xs:List NE}{ks:List Dm}(e:gV H xs ks):∀p∈xs,pT H p.2.1 p.1:=λp g=>by
 let⟨i,f,c⟩:=mem_iff_getElem.mp g;have l:=e.1;let⟨a,b,d⟩:=e.2 i _ (vz ⋯);rw[vz f,c]at b;cases b;exact Dp d
def gV.snoc{H:Hp}{xs:List NE}{ks:List Dm}(e:gV H xs ks){a:Addr}{d:Dm}(h:g5 H a (gD d)):gV H (xs++[(kD d,a,.int (⇑ks:Nat))]) (ks++[d]):=by
 have l:=e.1;refine⟨by simp_all,λi f b=>?_⟩;rcases Nat.lt_or_ge i ⇑ks with z | z
 .rw[vB z]at b;let⟨c,j,k⟩:=e.2 i f b;exact⟨c,by rw[vB ⋯];exact j,k⟩
 .rw[vC z]at b;have g:i=⇑ks:=by
   have:=(vx.mp b).1;rw[vS]at this;lia
  subst g;rw[Nat.sub_self]at b;cases b;exact⟨a,by rw[<-l,vC (vb _),Nat.sub_self];rfl,h⟩
def gV.found{H:Hp}{xs:List NE}{ks:List Dm}{d:Dm}(e:gV H xs ks)(r:ks.Nodup) :
  (∀p,xs.find? (λp=>decide (p.1=kD d))=some p->d∈ks/\p.2.2 = .int (ks.idxOf d:Nat))/\(xs.find? (λp=>decide (p.1=kD d))=none->d∉ks):=by
 have l:=e.1;refine⟨λp j=>?_,λq o=>?_⟩
 .have k:=List.find?_some j;have m:=List.mem_of_find?_eq_some j;let⟨i,f,c⟩:=mem_iff_getElem.mp m;have g:i<⇑ks:=⋯
  let⟨a,b,n⟩:=e.2 i _ (vz g);rw[vz f,c]at b;cases b;have h:ks[i]=d:=IW (of_decide_eq_true k);refine⟨h▸getElem_mem g,?_⟩;show V.int _=V.int _;rw[<-h,r.idxOf_getElem i g]
 .let⟨i,f,c⟩:=mem_iff_getElem.mp o;let⟨a,b,n⟩:=e.2 i _ (vz f);have:=List.find?_eq_none.mp q _ (vm b);rw[c]at this;exact this (vG rfl)
noncomputable def fJ(xs:L8)(ns:L6):List (Key×V):=(xs.zip ns).map λq=>(Sum.inr q.1,vN q.2)
def xw{xs:L8}{a:L6}{x:Str}{n:Nat}(h:⇑xs=⇑a):fJ (xs++[x]) (a++[n])=fJ xs a++[(Sum.inr x,vN n)]:=by
 unfold fJ;rw[List.zip_append h,vj];rfl
def G8{xs:L8}{a:L6}(h:⇑xs=⇑a):⇑(fJ xs a)=⇑xs:=by
 unfold fJ
 simp_all
def xv{xs:L8}{a:L6}(h:⇑xs=⇑a):(fJ xs a).map (·.1)=xs.map Sum.inr:=by
 unfold fJ;rw[v6];show(xs.zip a).map (λq=>Sum.inr q.1)=_;rw[show(λq:Str×Nat=>(Sum.inr q.1:Key))=Function.comp Sum.inr Prod.fst from rfl,<-v6,List.map_fst_zip ⋯]
def g9(H:Hp)(as:L7)(ks:List Dm):Prop:=bL (λa d=>g5 H a (gD d)) as ks
inductive i5(vs:N2)(H:Hp)(Q:VK)(xk:XK):Prop
 | mk (b pl pp las pas ls) (ps:N1):vs=[.ref b]->cx H b pl pp las pas ls ps->dC ls ps->1<=⇑ps->(∀(t f:Addr) (fas:L7) (H':Hp),bI H H'->H' t=some (.tup [.ref f,vN ((bW (bF ls) (bF ps) ps).2.getD (⇑ps-1) 0)])->H' f=some (.lst (fas.map V.ref))->g9 H' fas (bW (bF ls) (bF ps) ps).1->Q (.ref t) H')->i5 vs H Q xk
def Bh{xs:L8}{a:L6}(h:⇑xs=⇑a)(b:xs.Nodup){j:Nat}{x:Str}(e:xs[j]?=some x):cO (fJ xs a) (Sum.inr x)=some (vN (a.getD j 0)):=by
 have c:=(vx.mp e).1;refine Ww (j:=j) (by rw[xv h];exact pairwise_map.mpr (b.imp λh e=>h (Sum.inr.inj e))) ?_;unfold fJ
 simp_all
def Dv{H:Hp}{d:Addr}{px:L8}{a:L6}{i:Nat}(hi:i<=⇑px)(h:⇑a=i)(c:px.Nodup)(e:H d=some (.dK (fJ (px.take i) a))){x:Str}{j:Nat}(f:j<i)(b:px[j]?=some x):Itm H d (.str x) (vN (a.getD (cn px x) 0)):=by
 rw[j2 c b];refine .inr ?_;have g:=cM.k (k:=Sum.inr x) e;rw[Bh (j:=j) (by rw[vi];lia) (List.Nodup.sublist (take_sublist _ _) c) (by rw[List.getElem?_take,vd f];exact b)]at g;exact g
def Gs{H:Hp}{d l:Addr}{ls:L4}{ps:N1}{e:L6}{i:Nat}{p:Str×Fm}(W:dC ls ps)(o:ps[i]?=some p)(t:⇑e=i)(C:H d=some (.dK (fI (bF ls))))(r:H l=some (.dK (fJ ((bF ps).take i) e))) :
  lQ H d l (gF p.2) (gD (l0 (bF ls) (bF ps) e p.2)):=by
 have G:=(vx.mp o).1;have A:i<=⇑(bF ps):=by rw[bF,vt];lia
 let⟨q,B⟩:=W.f i p o;have b:∀(s:Bool) (a:L8),(∀x∈a,∃j,j<i/\(bF ps)[j]?=some x)->⇑a<=8->lQ H d l (.many s (a.map V.str)) (.many s ((a.map λx=>e.getD (cn (bF ps) x) 0).map vN)):=λs a D F=>by
  refine⟨_,by simp_all,λk x y u v=>?_,by simp_all,rfl⟩;rw[vv]at u;let⟨z,w,rfl⟩:=vg.mp u;rw[vv,vv,w]at v;cases v;let⟨j,c,m⟩:=D z (vm w);exact Dv A t W.pn r c m
 let⟨E,f⟩:=p;cases f with
 | hold n=>rfl
 | ring x n=>rfl
 | rise x h n=>
  let⟨j,c⟩:=W.r i E x h n o;refine⟨vN j,.inr ?_,?_⟩
  .have g:=cM.k (k:=Sum.inr x) C;rw[Yd W.ln c]at g;exact g
  .show Gv.rise (.int (cn (bF ls) x:Nat)) _ _=_;rw[j2 W.ln c];rfl
 | row a=>exact b false a q B
 | side a=>exact b true a q B
 | again k x=>
  let⟨j,c,m⟩:=q x vq;exact⟨_,Dv A t W.pn r c m,rfl⟩
def Ap{xs:N2}{n:Nat}{v:V}(h:1<=n)(e:⇑xs=n)(a:xs[n-1]?=some v):d0 xs (-1)=some v:=by
 have:xs=xs.take (n-1)++[v]:=by
  rw[<-take_snoc a,show n-1+1=⇑xs by lia,v5]
 rw[this];exact GF _ _
def g9.of{H:Hp}{xs:List NE}{ks:List Dm}(e:gV H xs ks):g9 H (xs.map λq=>q.2.1) ks:=by
 refine⟨by rw[vt];exact e.1,λi a d h b=>?_⟩;let⟨c,f,g⟩:=e.2 i d b
 simp_all
inductive Rc(ks:List Dm)(t:Nat):Nat->Prop
 | top:Rc ks t t
 | sub {y x:Nat}:Rc ks t y->x∈(ks.getD y (.hold 0)).ns->Rc ks t x
structure oP(ks:List Dm):Prop where
 lt:∀(i:Nat) (d:Dm),ks[i]?=some d->∀j∈d.ns,j<i
 l8:∀d∈ks,⇑d.ns<=8
def oP.get{ks:List Dm}(D:oP ks){i j:Nat}(h:j∈(ks.getD i (.hold 0)).ns):j<i/\i<⇑ks:=by
 rw[vy]at h;cases e:ks[i]? with
 | none=>rw[e]at h;exact nomatch h
 | some d=>rw[e]at h;exact⟨D.lt i d e j h,(vx.mp e).1⟩
def Rc.le{ks:List Dm}{t x:Nat}(D:oP ks)(h:Rc ks t x):x<=t:=by
 induction h with
 | top=>exact vb _
 | sub _ hm ih=>have:=(D.get hm).1;lia
def DX(lx px:L8)(a:L6)(f:Fm):(l0 lx px a f).ns=f.ns.map λx=>a.getD (cn px x) 0:=by cases f<;>rfl
theorem C3{ls:L4}{ps:N1}(W:dC ls ps):∀n,n<=⇑ps->oP (bW (bF ls) (bF ps) (ps.take n)).1
 | 0,_=>⟨λi d h=>by simp[bW]at h,λd h=>by simp[bW]at h⟩
 | n+1,hn=>by
  have g:ps[n]?=some ps[n]:=vz hn;let⟨f,e⟩:=C3 W n ⋯;have M:=KZ (bF ls) (bF ps) n (ps.take n) (by rw[vi];lia);rw[take_snoc g,qE];generalize bW (bF ls) (bF ps) (ps.take n)=st at f e M;let⟨q,p⟩:=W.f n _ g;unfold cQ;dsimp only;split
  .exact⟨f,e⟩
  .refine⟨λi d h j b=>?_,λd a=>?_⟩
   .rcases Nat.lt_or_ge i ⇑st.1 with z | z
    .rw[vB z]at h;exact f i d h j b
    .rw[vC z]at h;have l:i-⇑st.1=0:=by
      have:=(vx.mp h).1;rw[vS]at this;lia
     rw[l]at h;cases h;rw[DX]at b;let⟨x,o,rfl⟩:=vK.mp b;let⟨k,c,m⟩:=q x o;rw[j2 W.pn m,vy,vz (by rw[M.ln];exact c)];have:=M.lt _ (getElem_mem (by rw[M.ln];exact c):st.2[k]'(by rw[M.ln];exact c)∈st.2);show st.2[k]'_<i;lia
   .rcases vh.mp a with a | a
    .exact e d a
    .rw[vo.mp a,DX,vt];exact p
noncomputable def i2(S:L6)(x:Nat):L6:=if x∈S then S else S++[x]
noncomputable def iU(S xs:L6):L6:=xs.foldl i2 S
def Gy{S:L6}{x y:Nat}:y∈i2 S x↔y∈S\/y=x:=by
 unfold i2;split
 .rename_i h;exact⟨.inl,λz=>z.elim id λe=>e▸h⟩
 .simp
theorem zK:∀{xs S:L6} {y:Nat},y∈iU S xs↔y∈S\/y∈xs
 | [],S,y=>by simp[iU]
 | x::xs,S,y=>by
  show y∈iU (i2 S x) xs↔_;rw[zK,Gy,mem_cons,or_assoc]
def Hz{S:L6}(c:S.Nodup)(x:Nat):(i2 S x).Nodup:=by
 unfold i2;split
 .exact c
 .rename_i h;exact nodup_append.mpr ⟨c,by simp,λa d b e z=>h (by rw[<-vo.mp e,<-z];exact d)⟩
def E2(S xs:L6)(x:Nat):iU S (xs++[x])=i2 (iU S xs) x:=by
 unfold iU;rw[foldl_append];rfl
def KySet(kvs:List (Key×V))(S:L6):Prop:=kvs.map (·.1)=S.map iK/\S.Nodup
def Ay{a b:Nat}(h:iK a=iK b):a=b:=by
 have:(a:Int)=b:=Sum.inl.inj h;lia
def KySet.mem{kvs:List (Key×V)}{S:L6}(h:KySet kvs S){x:Nat}:(cO kvs (iK x)).isSome=decide (x∈S):=by
 have e:iK x∈kvs.map (·.1)↔x∈S:=by
  rw[h.1];exact⟨λz=>let ⟨y,hy,e⟩:=vK.mp z;(Ay e)▸hy,λz=>vK.mpr ⟨x,z,rfl⟩⟩
 cases v:cO kvs (iK x)with
 | none=>exact(vH λz=>Hs v (e.mpr z)).symm
 | some y=>exact(vG (e.mp (Lo v))).symm
def KySet.put{kvs:List (Key×V)}{S:L6}(h:KySet kvs S)(x:Nat)(v:V):KySet (putK kvs (iK x) v) (i2 S x):=by
 refine⟨?_,Hz h.2 x⟩;have m:=h.mem (x:=x);unfold putK i2;rw[zU,m];by_cases z:x∈S
 .rw[vG z,vd rfl,vd z,v6,<-h.1];refine map_congr_left λq j=>?_
  show(if q.1=iK x then(q.1,v)else q).1=q.1;split<;>rfl
 .rw[vH z,vc vF,vc z,vj,vj,h.1];rfl
def KySet.len{kvs:List (Key×V)}{S:L6}(h:KySet kvs S):⇑kvs=⇑S:=by
 have:=congrArg List.length h.1
 simp_all
theorem Cj{d:Type}[DecidableEq d]:∀{l m:List d},l.Nodup->(∀x∈l,x∈m)->⇑l<=⇑m
 | [],m,_,_=>va _
 | a::l,m,nd,h=>by
  rw[uo]at nd;have b:=h a vq;have:=Cj (l:=l) (m:=m.erase a) nd.2 λx c=>(List.mem_erase_of_ne (λz:x=a=>nd.1 (by rw[<-z];exact c))).mpr (h x (vp _ c))
  rw[List.length_erase_of_mem b]at this;have:=length_pos_of_mem b;rw[vQ];lia
def XA{S:L6}{n:Nat}(b:S.Nodup)(h:∀x∈S,x<n):⇑S<=n:=by
 have:=Cj (m:=List.range n) b λx a=>v4.mpr (h x a)
 simp_all
structure iT(ks:List Dm)(t i:Nat)(S:L6):Prop where
 rc:∀x∈S,Rc ks t x
 tp:t∈S
 cl:∀y∈S,t<y+i->∀j∈(ks.getD y (.hold 0)).ns,j∈S
def iT.all{ks:List Dm}{t:Nat}{S:L6}(c:iT ks t (t+1) S){x:Nat}:x∈S↔Rc ks t x:=by
 refine⟨c.rc x,λh=>?_⟩
 induction h with
 | top=>exact c.tp
 | sub _ hm ih=>exact c.cl _ ih ⋯ _ hm
def iT.yes{ks:List Dm}{t i y:Nat}{S:L6}(D:oP ks)(c:iT ks t i S)(d:y∈S)(e:y+i=t):iT ks t (i+1) (iU S (ks.getD y (.hold 0)).ns):=by
 refine⟨λx b=>?_,zK.mpr (.inl c.tp),λz f k j a=>?_⟩
 .rcases zK.mp b with h | h
  .exact c.rc x h
  .exact .sub (c.rc y d) h
 .rcases zK.mp f with h | h
  .by_cases g:z=y
   .subst g;exact zK.mpr (.inr a)
   .exact zK.mpr (.inl (c.cl z h ⋯ j a))
  .have:=(D.get h).1;lia
def iT.no{ks:List Dm}{t i y:Nat}{S:L6}(c:iT ks t i S)(d:y∉S)(e:y+i=t):iT ks t (i+1) S:=
 ⟨c.rc,c.tp,λz a f j b=>c.cl z a (by have:z≠y:=λe=>d (e▸a);lia) j b⟩
theorem BZ:∀{ms:L5},(∀m∈ms,0<=m)->∃a:L6,ms=a.map (λn:Nat=>(n:Int))
 | [],_=>⟨[],rfl⟩
 | m::ms,h=>by
  let⟨a,e⟩:=BZ (ms:=ms) λx b=>h x (vp _ b)
  have:=h m vq;exact⟨m.toNat::a,by rw[v9,<-e,show((m.toNat:Nat):Int)=m by lia]⟩
def Eo{ms:L5}{S:L6}(p:ms.Perm (S.map λn:Nat=>(n:Int)))(o:ms.Pairwise (·<=·))(i:S.Nodup):∃a:L6,ms.map V.int=a.map vN/\a.Pairwise (· < ·)/\∀x,x∈a↔x∈S:=by
 let⟨a,rfl⟩:=BZ (ms:=ms) λm g=>by
  let⟨n,q,rfl⟩:=vK.mp (p.mem_iff.mp g);exact Int.natCast_nonneg n
 have c:∀x,x∈a↔x∈S:=λx=>by
  constructor
  .intro h;let⟨y,b,e⟩:=vK.mp (p.mem_iff.mp (vK.mpr ⟨x,h,rfl⟩));have:y=x:=⋯
   exact this▸b
  .intro h;let⟨y,b,e⟩:=vK.mp (p.mem_iff.mpr (vK.mpr ⟨x,h,rfl⟩));have:y=x:=⋯
   exact this▸b
 have d:(S.map λn:Nat=>(n:Int)).Nodup:=pairwise_map.mpr (i.imp λh e=>h ⋯);have f:=pairwise_map.mp (p.nodup_iff.mpr d);refine⟨a,by rw[v6];rfl,?_,c⟩;exact((pairwise_map.mp o).and f).imp λ⟨j,k⟩=>⋯
inductive i3(vs:N2)(H:Hp)(Q:VK)(xk:XK):Prop
 | mk (f) (fas:L7) (ks:List Dm) (t):vs=[.ref f,vN t]->H f=some (.lst (fas.map V.ref))->g9 H fas ks->oP ks->t<⇑ks->⇑ks<=61->(∀(l:Addr) (ms:L6) (H':Hp),bI H H'->H l=none->H' l=some (.lst (ms.map vN))->ms.Pairwise (· < ·)->(∀x,x∈ms↔Rc ks t x)->Q (.ref l) H')->i3 vs H Q xk
noncomputable def rp(P:Nat->Nat):Dm->Dm
 | .row ps=>.row (ps.map P)
 | .side ps=>.side (ps.map P)
 | .again k p=>.again k (P p)
 | d=>d
noncomputable def cZ(ks:List Dm)(ms:L6):List Dm:=ms.map λk=>rp (λn=>ms.idxOf n) (ks.getD k (.hold 0))
def pS(ks:List Dm)(n:Nat):Prop:=∀d∈ks,∀l h b,d = .rise l h b->l<n
theorem DQ{ls:L4}{ps:N1}(W:dC ls ps):∀n,n<=⇑ps->pS (bW (bF ls) (bF ps) (ps.take n)).1 ⇑ls
 | 0,_=>λd h=>by simp[bW]at h
 | n+1,hn=>by
  have g:ps[n]?=some ps[n]:=vz hn;have i:=DQ W n ⋯;rw[take_snoc g,qE];generalize bW (bF ls) (bF ps) (ps.take n)=st at i;unfold cQ;dsimp only;split
  .exact i
  .intro d a l h b e;rcases vh.mp a with a | a
   .exact i d a l h b e
   .rw[vo.mp a]at e;generalize r:ps[n]=p at e g;let⟨q,f⟩:=p;cases f with
    | rise x v m=>
     let⟨j,o⟩:=W.r n q x v m g;have c:(Dm.rise (cn (bF ls) x) v m) = .rise l h b:=e;injection c with c;rw[<-c,j2 W.ln o];have:=(vx.mp o).1;rw[bF,vt]at this;exact this
    | hold n=>cases e
    | ring x n=>cases e
    | row qs=>cases e
    | side qs=>cases e
    | again k x=>cases e
noncomputable def gZ(ms:L6):List (Key×V):=ms.zipIdx.map λp=>(iK p.1,vN p.2)
def E8(ms:L6)(m:Nat):gZ (ms++[m])=gZ ms++[(iK m,vN ⇑ms)]:=by
 unfold gZ;rw[List.zipIdx_append,vj];simp
def G5(ms:L6):⇑(gZ ms)=⇑ms:=by simp[gZ]
def xt(ms:L6):(gZ ms).map (·.1)=ms.map iK:=by
 unfold gZ;rw[v6];have e:∀(k:Nat) (a:L6),(a.zipIdx k).map (Function.comp (λx=>x.1) λp:Nat×Nat=>(iK p.1,vN p.2))=a.map iK:=λk a=>by
  induction a generalizing k with
  | nil=>rfl
  | cons x r ih=>simp_all
 exact e 0 ms
def G6{ms:L6}(a:ms.Nodup){m:Nat}(h:m∈ms):cO (gZ ms) (iK m)=some (vN (ms.idxOf m)):=by
 refine Ww (j:=ms.idxOf m) (by rw[xt];exact pairwise_map.mpr (a.imp λh e=>h (Ay e))) ?_;unfold gZ;have b:=idxOf_lt_length_of_mem h
 simp_all
def AG{ms:L6}(h:ms.Pairwise (· < ·)):ms.Nodup:=h.imp λh=>vE h
def LJ{H:Hp}{l an:Addr}{n:Nat}{ms:L6}{d:Dm}(o:H l=some (.lst ((List.range n).map vN)))(m:H an=some (.dK (gZ ms)))(C:ms.Nodup)(t:∀k h b,d = .rise k h b->k<n)(v:∀j∈d.ns,j∈ms)(e:⇑d.ns<=8) :
  lQ H l an (gD d) (gD (rp (λn=>ms.idxOf n) d)):=by
 have i:∀j∈d.ns,Itm H an (vN j) (vN (ms.idxOf j)):=λj q=>by
  refine .inr ?_;have g:=cM.k (k:=iK j) m;rw[G6 C (v j q)]at g;exact g
 have c:∀(s:Bool) (a:L6),(∀j∈a,j∈d.ns)->⇑a<=8->lQ H l an (.many s (a.map vN)) (.many s ((a.map λn=>ms.idxOf n).map vN)):=λs a w e=>by
  refine⟨_,by simp_all,λk x y A f=>?_,by simp_all,rfl⟩;let⟨z,B,rfl,u⟩:=sJ A;rw[vv,vv,B]at f;cases f;exact i z (w z u)
 cases d with
 | hold n=>rfl
 | ring x n=>rfl
 | rise k h b=>
  have r:=t k h b rfl;exact⟨.int (k:Nat),.inl ⟨_,_,o,rfl,L2.jK (j:=k) (by rw[vv,List.getElem?_range r];rfl)⟩,rfl⟩
 | row a=>exact c false a (λj h=>h) e
 | side a=>exact c true a (λj h=>h) e
 | again k p=>exact⟨_,i p vq,rfl⟩
noncomputable def g4(ls:L4)(ps:N1):Nat:=(bW (bF ls) (bF ps) ps).2.getD (⇑ps-1) 0
noncomputable def cG(ls:L4)(ps:N1):List Dm:=(bW (bF ls) (bF ps) ps).1
def Kept(ls:L4)(ps:N1)(ms:L6):Prop:=ms.Pairwise (· < ·)/\∀x,x∈ms↔Rc (cG ls ps) (g4 ls ps) x
inductive ie(vs:N2)(H:Hp)(Q:VK)(xk:XK):Prop
 | mk (b pl pp) (las:L7) (pas ls) (ps:N1):vs=[.ref b]->cx H b pl pp las pas ls ps->dC ls ps->1<=⇑ps->(∀(t l f:Addr) (das:L7) (ms:L6) (H':Hp),bI H H'->H' t=some (.tup [.ref l,.ref f])->H' l=some (.lst (las.map V.ref))->H' f=some (.lst (das.map V.ref))->H l=none->H f=none->l≠f->g9 H' das (cZ (cG ls ps) ms)->Kept ls ps ms->Q (.ref t) H')->ie vs H Q xk
structure fF(ls:L4)(ps:N1):Prop where
 dw:oP (cG ls ps)
 lm:pS (cG ls ps) ⇑ls
 nd:(cG ls ps).Nodup
 nF:⇑(cG ls ps)<=61
 tp:g4 ls ps<⇑(cG ls ps)
def Xw{ls:L4}{ps:N1}(W:dC ls ps)(a:1<=⇑ps):fF ls ps:=by
 have M:=KZ (bF ls) (bF ps) ⇑ps ps rfl;have d:=C3 W ⇑ps (vb _);have l:=DQ W ⇑ps (vb _);rw[v5]at d l;refine⟨d,l,M.nd,vW M.lk W.mW,M.lt _ ?_⟩;unfold g4;rw[vy,vz (by rw[M.ln];lia)];exact getElem_mem _
def Kept.lt{ls:L4}{ps:N1}{ms:L6}(K:Kept ls ps ms)(O:fF ls ps){x:Nat}(h:x∈ms):x<=g4 ls ps:=((K.2 x).mp h).le O.dw
def Kept.len{ls:L4}{ps:N1}{ms:L6}(K:Kept ls ps ms)(O:fF ls ps):⇑ms<=61:=by
 have:=XA (n:=g4 ls ps+1) (AG K.1) λx a=>by have:=K.lt O a;lia
 have:=O.tp;have:=O.nF;lia
def Kept.sub{ls:L4}{ps:N1}{ms:L6}(K:Kept ls ps ms){x j:Nat}(h:x∈ms)(a:j∈((cG ls ps).getD x (.hold 0)).ns):j∈ms:=(K.2 j).mpr (.sub ((K.2 x).mp h) a)
def IM{lx px:L8}{st:List Dm×L6}{p:Str×Fm}:∃j,(cQ lx px st p).2=st.2++[j]/\(cQ lx px st p).1[j]?=some (l0 lx px st.2 p.2)/\∀m,m<j->(cQ lx px st p).1[m]?≠some (l0 lx px st.2 p.2):=by
 unfold cQ;dsimp only;split
 .rename_i hd;refine⟨_,rfl,?_,λm a e=>?_⟩
  .have b:=idxOf_lt_length_of_mem hd;rw[vz b,getElem_idxOf b]
  .let⟨d,c⟩:=vx.mp e;have:=List.not_of_lt_findIdx (p:=(· == l0 lx px st.2 p.2)) (xs:=st.1) a;rw[c]at this;simp at this
 .rename_i hd;refine⟨_,rfl,by rw[vC (vb _),Nat.sub_self];rfl,λm a e=>hd ?_⟩;rw[vB a]at e;exact vm e
def Az{ms:L6}{x:Nat}(h:x∈ms):ms[ms.idxOf x]?=some x/\∀m,m<ms.idxOf x->ms[m]?≠some x:=by
 refine⟨?_,λm c e=>?_⟩
 .have a:=idxOf_lt_length_of_mem h;rw[vz a,getElem_idxOf a]
 .let⟨d,b⟩:=vx.mp e;have:=List.not_of_lt_findIdx (p:=(· == x)) (xs:=ms) c;rw[b]at this;simp at this
def uu(P:Nat->Nat)(d:Dm):(rp P d).ns=d.ns.map P:=by cases d<;>rfl
def IB{ls:L4}{ps:N1}{ms:L6}(O:fF ls ps)(K:Kept ls ps ms):∀d∈cZ (cG ls ps) ms,⇑d.ns<=8:=λd a=>by
 let⟨k,b,rfl⟩:=vK.mp a;rw[uu,vt];have:=K.lt O b;have:=O.tp;rw[vy,vz ⋯];exact O.dw.l8 _ (getElem_mem _)
noncomputable def fD(n:Nat):Str:=if n<26 then⟨#[97+n]⟩else⟨#[97+n/26,97+n%26]⟩
def BP:Sp:=λvs H Q q=>∃n:Nat,vs=[.int (n:Nat)]/\n<676/\Q (.str (fD n)) H
noncomputable def lT(lx:L8):Dm->Fm
 | .hold n=>.hold n
 | .ring x n=>.ring x n
 | .rise l h n=>.rise (lx.getD l ⟨#[]⟩) h n
 | .row ps=>.row (ps.map fD)
 | .side ps=>.side (ps.map fD)
 | .again k p=>.again k (fD p)
noncomputable def cK(ls:L4)(ks:List Dm):N1:=(List.range ⇑ks).map λi=>(fD i,lT (bF ls) (ks.getD i (.hold 0)))
def Jr(ls:L4)(ks:List Dm):⇑(cK ls ks)=⇑ks:=by unfold cK;rw[vt,length_range]
def yV{ls:L4}{ks:List Dm}{i:Nat}{d:Dm}(h:ks[i]?=some d):(cK ls ks)[i]?=some (fD i,lT (bF ls) d):=by
 unfold cK;rw[vv,List.getElem?_range (vx.mp h).1];show some (fD i,lT (bF ls) (ks.getD i _))=_;rw[vy,h];rfl
structure iE(ls:L4)(ks:List Dm):Prop where
 dw:oP ks
 lm:pS ks ⇑ls
 nF:⇑ks<=61
 l8:⇑ls<=8
def Lw{H:Hp}{l p:Addr}{ls:L4}{d:Dm}{n:Nat}(m:H l=some (.lst ((bF ls).map V.str)))(ep:H p=some (.lst ((List.range n).map λi=>V.str (fD i))))(t:∀k h b,d = .rise k h b->k<⇑ls)(v:∀j∈d.ns,j<n)(e:⇑d.ns<=8) :
  lQ H l p (gD d) (gF (lT (bF ls) d)):=by
 have g:∀j∈d.ns,Itm H p (vN j) (.str (fD j)):=λj o=>.inl ⟨_,_,ep,rfl,L2.jK (j:=j) (by rw[vv,List.getElem?_range (v j o)];rfl)⟩
 have c:∀(s:Bool) (a:L6),(∀j∈a,j∈d.ns)->⇑a<=8->lQ H l p (.many s (a.map vN)) (.many s ((a.map fD).map V.str)):=λs a w e=>by
  refine⟨_,by simp_all,λk x y A f=>?_,by simp_all,rfl⟩;let⟨z,B,rfl,u⟩:=sJ A;rw[vv,vv,B]at f;cases f;exact g z (w z u)
 cases d with
 | hold n=>rfl
 | ring x n=>rfl
 | rise k h b=>
  have q:=t k h b rfl;have r:k<⇑(bF ls):=by rw[bF,vt];exact q
  refine⟨.str ((bF ls).getD k ⟨#[]⟩),.inl ⟨_,_,m,rfl,L2.jK (j:=k) ?_⟩,rfl⟩
  simp_all
 | row a=>exact c false a (λj h=>h) e
 | side a=>exact c true a (λj h=>h) e
 | again k p=>exact⟨_,g p vq,rfl⟩
inductive gv(vs:N2)(H:Hp)(Q:VK)(xk:XK):Prop
 | mk (bx l f) (las das:L7) (ls ks):vs=[.ref bx]->H bx=some (.tup [.ref l,.ref f])->H l=some (.lst (las.map V.ref))->bL (eQ H) las ls->H f=some (.lst (das.map V.ref))->g9 H das ks->iE ls ks->(∀(b pl pp:Addr) (pas:L7) (H':Hp),bI H H'->cx H' b pl pp las pas ls (cK ls ks)->H pl=none->H pp=none->pl≠pp->Q (.ref b) H')->gv vs H Q xk
def IU{ms:L6}(h:ms.Pairwise (· < ·)){i n m:Nat}(hi:ms[i]?=some m)(f:n∈ms)(d:n<m):ms.idxOf n<i:=by
 have b:=idxOf_lt_length_of_mem f;have e:=getElem_idxOf b;let⟨c,a⟩:=vx.mp hi;rcases Nat.lt_or_ge (ms.idxOf n) i with z | z
 .exact z
 .rcases Nat.lt_or_ge i (ms.idxOf n)with w | w
  .have:=pairwise_iff_getElem.mp h i _ c b w;rw[a,e]at this;lia
  .have:i=ms.idxOf n:=⋯
   subst this;rw[e]at a;lia
def Xr{ks:List Dm}{ms:L6}{i m:Nat}(h:ms[i]?=some m):(cZ ks ms)[i]?=some (rp (λn=>ms.idxOf n) (ks.getD m (.hold 0))):=by
 unfold cZ;rw[vv,h];rfl
def w6(ks:List Dm)(ms:L6):⇑(cZ ks ms)=⇑ms:=vt _
def CF{ls:L4}{ps:N1}{ms:L6}(O:fF ls ps)(r:⇑ls<=8)(K:Kept ls ps ms):iE ls (cZ (cG ls ps) ms):=by
 refine⟨⟨λi d c j g=>?_,IB O K⟩,λd c l h b e=>?_,by rw[w6];exact K.len O,r⟩
 .have f:=(vx.mp c).1;rw[w6]at f;have m:ms[i]?=some ms[i]:=vz f;rw[Xr m]at c;cases c;rw[uu]at g;let⟨n,o,rfl⟩:=vK.mp g;exact IU K.1 m (K.sub (getElem_mem f) o) (O.dw.get o).1
 .let⟨k,q,rfl⟩:=vK.mp c;have:=K.lt O q;have:=O.tp;have p:(cG ls ps).getD k (.hold 0)=(cG ls ps)[k]:=by rw[vy,vz ⋯];rfl
  rw[p]at e;have a:(cG ls ps)[k]∈cG ls ps:=getElem_mem _;generalize(cG ls ps)[k]=d' at e a;refine O.lm d' a l h b ?_;cases d'<;>first | exact e | cases e
def Aq(lx:L8)(d:Dm):(lT lx d).ns=d.ns.map fD:=by cases d<;>rfl
def Rc.inv{ks:List Dm}{t x:Nat}(h:Rc ks t x):x=t\/∃y,Rc ks t y/\x∈(ks.getD y (.hold 0)).ns:=by
 cases h with
 | top=>exact .inl rfl
 | sub h1 h2=>exact .inr ⟨_,h1,h2⟩
section
variable{ls:L4}{ps:N1}{ms:L6}
def Kept.refs(K:Kept ls ps ms)(O:fF ls ps){x:Nat}{d:Dm}(a:x∈ms)(b:(cG ls ps)[x]?=some d):∀j∈d.ns,j∈ms:=λj c=>K.sub a (by simp_all)
def Kept.named(K:Kept ls ps ms)(O:fF ls ps):(∃c,ms[c]?=some (g4 ls ps)/\c+1=⇑ms)/\∀j,j+1<⇑ms->∃(i:Nat) (d:Dm),(cZ (cG ls ps) ms)[i]?=some d/\j∈d.ns:=by
 have g:g4 ls ps∈ms:=(K.2 _).mpr .top;have a:ms.idxOf (g4 ls ps)+1=⇑ms:=by
  have f:=idxOf_lt_length_of_mem g;have h:=getElem_idxOf f;rcases Nat.lt_or_ge (ms.idxOf (g4 ls ps)+1) ⇑ms with z | z
  .have:=pairwise_iff_getElem.mp K.1 (ms.idxOf (g4 ls ps)) (ms.idxOf (g4 ls ps)+1) f z ⋯;have:=K.lt O (getElem_mem z);rw[h]at *;lia
  .lia
 refine⟨⟨_,(Az g).1,a⟩,λj p=>?_⟩;have k:ms[j]?=some ms[j]:=vz ⋯;have l:ms[j]∈ms:=getElem_mem _;have b:ms.idxOf ms[j]=j:=(AG K.1).idxOf_getElem j ⋯;rcases((K.2 _).mp l).inv with e | ⟨y,n,m⟩
 .rw[e]at b;lia
 .have o:=(K.2 y).mpr n;refine⟨_,_,Xr (Az o).1,?_⟩;rw[uu];exact vK.mpr ⟨_,m,b⟩
end
def GY{lx px:L8}{st:List Dm×L6}{p:Str×Fm}:∃r,(cQ lx px st p).1=st.1++r:=by
 unfold cQ;dsimp only;split
 .simp_all
 .exact⟨_,rfl⟩
theorem C4(lx px:L8)(ps:N1)(n:Nat):∀k,∃r,(bW lx px (ps.take (n+k))).1=(bW lx px (ps.take n)).1++r
 | 0=>⟨[],(append_nil _).symm⟩
 | k+1=>by
  let⟨r,h⟩:=C4 lx px ps n k;rcases Nat.lt_or_ge (n+k) ⇑ps with z | z
  .rw[show n+(k+1)=(n+k)+1 by lia,take_snoc (vz z),qE];let⟨b,a⟩:=GY (lx:=lx) (px:=px) (st:=bW lx px (ps.take (n+k))) (p:=ps[n+k])
   simp_all
  .have e:ps.take (n+(k+1))=ps.take (n+k):=by rw[take_of_length_le ⋯,take_of_length_le z]
   rw[e];exact⟨r,h⟩
def LB{ls:L4}{ps:N1}{n x:Nat}{d:Dm}(h:(bW (bF ls) (bF ps) (ps.take n)).1[x]?=some d):(cG ls ps)[x]?=some d:=by
 let⟨r,e⟩:=C4 (bF ls) (bF ps) ps n ⇑ps;rw[take_of_length_le ⋯]at e;unfold cG;rw[e,vB (vx.mp h).1];exact h
def Wu{lx px:L8}{st:List Dm×L6}{p:Str×Fm}:∃j,(cQ lx px st p).2=st.2++[j]/\(cQ lx px st p).1[j]?=some (l0 lx px st.2 p.2)/\((j<⇑st.1/\(cQ lx px st p).1=st.1)\/(j=⇑st.1/\(cQ lx px st p).1.length=⇑st.1+1)):=by
 let⟨j,a,b,q⟩:=IM (lx:=lx) (px:=px) (st:=st) (p:=p);refine⟨j,a,b,?_⟩;unfold cQ at a|-;dsimp only at a|-;split
 .rename_i hd;rw[vd hd]at a;have:st.1.idxOf (l0 lx px st.2 p.2)=j:=by
   simp_all
  exact .inl ⟨this▸idxOf_lt_length_of_mem hd,rfl⟩
 simp_all
def hU(R:Str->Str->Prop)(p q:Fm):Prop:=match p with
 | .row ps=>∃qs,q = .row qs/\⇑ps=⇑qs/\∀(i:Nat) (x y:Str),ps[i]?=some x->qs[i]?=some y->R x y
 | .side ps=>∃qs,q = .side qs/\⇑ps=⇑qs/\∀(i:Nat) (x y:Str),ps[i]?=some x->qs[i]?=some y->R x y
 | .again k x=>∃y,q = .again k y/\R x y
 | p=>q=p
def hU.rise{R:Str->Str->Prop}{p:Fm}{x:Str}{a b:Int}(h:hU R p (.rise x a b)):p = .rise x a b:=by
 cases p with
 | row ps=>let⟨q,e,q⟩:=h;cases e
 | side ps=>let⟨q,e,q⟩:=h;cases e
 | again k y=>let⟨q,e,q⟩:=h;cases e
 | _=>exact h.symm
def cJ.dM{H H':Hp}{a:Addr}{p:Str×Fm}(s:∀b xs,H b=some (.tup xs)->H' b=some (.tup xs))(h:cJ H a p):cJ H' a p:=by
 let⟨b,c,d⟩:=h;exact⟨b,s _ _ c,wW.mpr (g5.dM s (wW.mp d))⟩
def HA{i j:Nat}(hi:i<676)(a:j<676)(h:fD i=fD j):i=j:=by
 unfold fD at h;split at h<;>split at h<;>(injection h with h;simp only[Array.mk.injEq,List.cons.injEq,reduceCtorEq,and_true,and_false,false_and]at h)<;>lia
def Du(ls:L4)(ks:List Dm):bF (cK ls ks)=(List.range ⇑ks).map fD:=by
 unfold bF cK;rw[v6];rfl
section
variable{ls:L4}{ks:List Dm}
def DO(B:iE ls ks):(bF (cK ls ks)).Nodup:=by
 rw[Du];refine pairwise_map.mpr (List.Pairwise.imp_of_mem (λ{a b} d f c e=>c (HA ?_ ?_ e)) (nodup_range (n:=⇑ks)))
 .have:=v4.mp d;have:=B.nF;lia
 .have:=v4.mp f;have:=B.nF;lia
def DP{j:Nat}(h:j<⇑ks):(bF (cK ls ks))[j]?=some (fD j):=by
 rw[Du,vv,List.getElem?_range h];rfl
def LU(B:iE ls ks){j:Nat}(h:j<⇑ks):cn (bF (cK ls ks)) (fD j)=j:=j2 (DO B) (DP h)
def Md(B:iE ls ks)(k:(bF ls).Nodup):dC ls (cK ls ks):=by
 refine⟨k,B.l8,DO B,by rw[Jr];exact B.nF,λi p a=>?_,λi y x h n a=>?_⟩
 all_goals
  have d:=(vx.mp a).1;rw[Jr]at d;have c:ks[i]?=some ks[i]:=vz d;rw[yV c]at a
 .cases a;refine⟨λx f=>?_,?_⟩
  .rw[Aq]at f;let⟨j,g,rfl⟩:=vK.mp f;have:=B.dw.lt i _ c j g;exact⟨j,this,DP ⋯⟩
  .show(lT _ _).ns.length<=8;rw[Aq,vt];exact B.dw.l8 _ (getElem_mem _)
 .injection a with a;injection a with _ a;cases e:ks[i]with
  | rise l v b=>
   rw[e]at a;injection a with h1;have m:=B.lm _ (vm c) l v b e;exact⟨l,by rw[<-h1,vy,vz (by unfold bF;simp_all)];rfl⟩
  | _=>rw[e]at a;cases a
end
theorem B5(lx px:L8)(ps:N1)(n:Nat):∀k,∃r,(bW lx px (ps.take (n+k))).2=(bW lx px (ps.take n)).2++r
 | 0=>⟨[],(append_nil _).symm⟩
 | k+1=>by
  let⟨r,h⟩:=B5 lx px ps n k;rcases Nat.lt_or_ge (n+k) ⇑ps with z | z
  .rw[show n+(k+1)=(n+k)+1 by lia,take_snoc (vz z),qE];let⟨j,a,q⟩:=Wu (lx:=lx) (px:=px) (st:=bW lx px (ps.take (n+k))) (p:=ps[n+k])
   simp_all
  .have e:ps.take (n+(k+1))=ps.take (n+k):=by rw[take_of_length_le ⋯,take_of_length_le z]
   rw[e];exact⟨r,h⟩
noncomputable def numOf(ls:L4)(ps:N1)(i:Nat):Nat:=(bW (bF ls) (bF ps) ps).2.getD i 0
section
variable{ls:L4}{ps:N1}{ms:L6}
def Ae{n i:Nat}(a:n<=⇑ps)(h:i<n):(bW (bF ls) (bF ps) (ps.take n)).2.getD i 0=numOf ls ps i:=by
 let⟨r,e⟩:=B5 (bF ls) (bF ps) ps n ⇑ps;have M:=KZ (bF ls) (bF ps) n (ps.take n) (by rw[vi];lia);rw[take_of_length_le ⋯]at e;unfold numOf;rw[e,vy,vy,vB (by rw[M.ln];exact h)]
def Fd(W:dC ls ps){i:Nat}{p:Str×Fm}(b:ps[i]?=some p):(cG ls ps)[numOf ls ps i]?=some (l0 (bF ls) (bF ps) (bW (bF ls) (bF ps) ps).2 p.2):=by
 have o:=(vx.mp b).1;have M1:=KZ (bF ls) (bF ps) i (ps.take i) (by rw[vi];lia);have h:bW (bF ls) (bF ps) (ps.take (i+1))=cQ (bF ls) (bF ps) (bW (bF ls) (bF ps) (ps.take i)) p:=by rw[take_snoc b,qE]
 let⟨j,c,e,q⟩:=Wu (lx:=bF ls) (px:=bF ps) (st:=bW (bF ls) (bF ps) (ps.take i)) (p:=p);rw[<-h]at c e;have g:numOf ls ps i=j:=by
  rw[<-Ae (n:=i+1) ⋯ ⋯,c];have:=getD_last (l:=(bW (bF ls) (bF ps) (ps.take i)).2) (x:=j) (d:=0);rw[M1.ln]at this;exact this
 rw[g];have:=LB e;rw[this];have a:∀x∈p.2.ns,(bW (bF ls) (bF ps) (ps.take i)).2.getD (cn (bF ps) x) 0=(bW (bF ls) (bF ps) ps).2.getD (cn (bF ps) x) 0:=λx m=>Ae ⋯ (W.cq b (vK.mpr ⟨x,m,rfl⟩))
 generalize p.2=f at a;cases f with
 | row qs=>exact congrArg (λz=>some (Dm.row z)) (map_congr_left a)
 | side qs=>exact congrArg (λz=>some (Dm.side z)) (map_congr_left a)
 | again k x=>exact congrArg (λz=>some (Dm.again k z)) (a x vq)
 | _=>rfl
structure oN(ps qs:N1)(C:Nat->Nat->Prop)(g:Nat->Nat):Prop where
 lt:∀i k,C i k->i<⇑ps/\k<⇑qs
 ex:∀k,k<⇑qs->∃i,C i k
 top:C (⇑ps-1) (⇑qs-1)
 f:∀(i k:Nat) (p q:Str×Fm),C i k->ps[i]?=some p->qs[k]?=some q->hU (λ_ _=>True) p.2 q.2/\bY qs q.2=(bY ps p.2).map g/\∀j∈bY ps p.2,j<i/\C j (g j)
theorem DE(n:Nat):∀(i:Nat),i<=n->∀(x:Nat),x<(bW (bF ls) (bF ps) (ps.take i)).1.length->i<=⇑ps->∃j,j<i/\numOf ls ps j=x
 | 0,_,x,h,_=>by simp[bW]at h
 | i+1,hn,x,h,hi=>by
  have g:ps[i]?=some ps[i]:=vz hi;have M1:=KZ (bF ls) (bF ps) i (ps.take i) (by rw[vi];lia);let⟨j,b,k,c⟩:=Wu (lx:=bF ls) (px:=bF ps) (st:=bW (bF ls) (bF ps) (ps.take i)) (p:=ps[i]);have e:bW (bF ls) (bF ps) (ps.take (i+1))=cQ (bF ls) (bF ps) (bW (bF ls) (bF ps) (ps.take i)) ps[i]:=by rw[take_snoc g,qE]
  rw[<-e]at b c;have a:x<(bW (bF ls) (bF ps) (ps.take i)).1.length->∃j,j<i+1/\numOf ls ps j=x:=λh=>by
   let⟨j,m,f⟩:=DE n i ⋯ x h ⋯;exact⟨j,⋯,f⟩
  rcases c with⟨_,z⟩ | ⟨o,q⟩
  .exact a (by rw[z]at h;exact h)
  .rcases Nat.lt_or_ge x (bW (bF ls) (bF ps) (ps.take i)).1.length with y | y
   .exact a y
   .refine⟨i,⋯,?_⟩;rw[<-Ae (n:=i+1) ⋯ ⋯,b];have:=getD_last (l:=(bW (bF ls) (bF ps) (ps.take i)).2) (x:=j) (d:=0);rw[M1.ln]at this;lia
def Lz(W:dC ls ps)(D:1<=⇑ps)(K:Kept ls ps ms):oN ps (cK ls (cZ (cG ls ps) ms)) (λi k=>i<⇑ps/\ms[k]?=some (numOf ls ps i)) (λj=>ms.idxOf (numOf ls ps j)):=by
 have O:=Xw W D;have B:=CF O W.l8 K;have w:⇑(cZ (cG ls ps) ms)=⇑ms:=by unfold cZ;rw[vt]
 have r:⇑(cK ls (cZ (cG ls ps) ms))=⇑ms:=by rw[Jr,w]
 refine⟨λi k h=>⟨h.1,by rw[r];exact(vx.mp h.2).1⟩,λk o=>?_,?_,λi k p q h l A=>?_⟩
 .rw[r]at o;have g:ms[k]<⇑(cG ls ps):=vD (K.lt O (getElem_mem o)) O.tp;let⟨j,m,u⟩:=DE (ls:=ls) (ps:=ps) ⇑ps ⇑ps (vb _) ms[k] (by rw[v5];exact g) (vb _);exact⟨j,m,by rw[u];exact vz o⟩
 .let⟨⟨c,m,u⟩,_⟩:=K.named O;refine⟨⋯,?_⟩;rw[r,show ⇑ms-1=c by lia];exact m
 .let⟨F,g⟩:=h;have v:=Fd W l;have s:=Xr (ks:=cG ls ps) g;rw[vy,v]at s;have t:=yV (ls:=ls) s;rw[A]at t;cases t;have d:∀j∈bY ps p.2,numOf ls ps j∈ms:=λj a=>by
   refine K.refs O (vm g) v _ ?_;let⟨x,b,rfl⟩:=vK.mp a;generalize p.2=f at b;cases f with
   | row qs=>exact vK.mpr ⟨x,b,rfl⟩
   | side qs=>exact vK.mpr ⟨x,b,rfl⟩
   | again k y=>rw[vo.mp b];exact vq
   | _=>exact nomatch b
  have C:∀j∈bY ps p.2,cn (bF (cK ls (cZ (cG ls ps) ms))) (fD (ms.idxOf (numOf ls ps j)))=ms.idxOf (numOf ls ps j):=λj a=>LU B (by rw[w];exact idxOf_lt_length_of_mem (d j a))
  refine⟨?_,?_,λj a=>⟨W.cq l a,by have:=W.cq l a;lia,(Az (d j a)).1⟩⟩
  .have z:=λx h n (e:p.2 = .rise x h n)=>W.r i p.1 x h n (by rw[l,<-e])
   show hU _ p.2 (lT (bF ls) (rp _ (l0 _ _ _ p.2)));generalize p.2=f at z;cases f with
   | hold n=>rfl
   | ring x n=>rfl
   | rise x h n=>
    let⟨j,a⟩:=z x h n rfl;show Fm.rise ((bF ls).getD (cn (bF ls) x) ⟨#[]⟩) h n = .rise x h n;rw[j2 W.ln a,vy,a];rfl
   | row qs=>exact⟨_,rfl,by rw[vt,vt,vt],λZ Z Z Z Z=>trivial⟩
   | side qs=>exact⟨_,rfl,by rw[vt,vt,vt],λZ Z Z Z Z=>trivial⟩
   | again k x=>exact⟨_,rfl,trivial⟩
  .unfold bY at C|-;show(lT (bF ls) (rp _ (l0 _ _ _ p.2))).ns.map _=_;rw[Aq,uu,v6,v6];have E:(l0 (bF ls) (bF ps) (bW (bF ls) (bF ps) ps).2 p.2).ns=p.2.ns.map λx=>numOf ls ps (cn (bF ps) x):=by cases p.2<;>rfl
   rw[E,v6]
   simp_all
def hU.fR{R:Str->Str->Prop}{p q:Fm}{x:Str}{a b:Int}(h:hU R p q):p = .rise x a b↔q = .rise x a b:=by
 constructor
 .rintro rfl;exact h
 .rintro rfl;exact h.rise
section
variable{qs:N1}{C:Nat->Nat->Prop}{g:Nat->Nat}
def Il{M N:L1}(R:oN ps qs C g)(H:⇑M=⇑ps)(I:⇑N=⇑qs)(B:dA ls ps M)(D:dA ls qs N):∀i k,C i k->N.getD k []=M.getD i []:=by
 intro i
 induction i using Nat.strongRecOn with
 | ind i ih=>
  intro k s;let⟨E,F⟩:=R.lt i k s;have q:ps[i]?=some ps[i]:=vz E;have r:qs[k]?=some qs[k]:=vz F;have z:M[i]?=some (M.getD i []):=by simp_all
  have A:N[k]?=some (N.getD k []):=by simp_all
  let⟨a,b⟩:=B i _ _ q z;let⟨w,y⟩:=D k _ _ r A;let⟨u,d,t⟩:=R.f i k _ _ s q r;refine um w a λv=>(y v).trans (Iff.trans ?_ (b v).symm)
  rw[d];refine or_congr ⟨?_,?_⟩ ⟨?_,?_⟩
  .rintro⟨G,l,m⟩;let⟨j,c,rfl⟩:=vK.mp l;let⟨o,p⟩:=t j c;exact⟨j,c,by rw[<-ih j o _ p];exact m⟩
  .rintro⟨j,c,m⟩;let⟨o,p⟩:=t j c;exact⟨g j,vK.mpr ⟨j,c,rfl⟩,by rw[ih j o _ p];exact m⟩
  .rintro⟨x,h,n,e,f⟩;exact⟨x,h,n,u.fR.mpr e,f⟩
  .rintro⟨x,h,n,e,f⟩;exact⟨x,h,n,u.fR.mp e,f⟩
def rV(Ls:L0)(k v:Int):Prop:=∃pre e post,Ls=pre++e::post/\(k,v)∈e/\∀e'∈post,∀v',(k,v')∉e'
theorem CK{c b:Type}{f:c->b}:∀{l:List c} {pre:List b} {e:b} {a:List b},l.map f=pre++e::a->∃p x q,l=p++x::q/\p.map f=pre/\f x=e/\q.map f=a
 | [],pre,e,a,h=>by cases pre<;>simp at h
 | y::l,[],e,a,h=>by
  rw[v9,nil_append]at h;injection h with h1 h2;exact⟨[],y,l,rfl,rfl,h1,h2⟩
 | y::l,z::pre,e,a,h=>by
  rw[v9,cons_append]at h;injection h with h1 h2;let⟨p,x,q,rfl,d,g,i⟩:=CK h2;exact⟨y::p,x,q,rfl,by rw[v9,h1,d],g,i⟩
def A9{E:L0}{is:L6}{k v:Int}:eO E is k v↔rV (is.map λj=>E.getD j []) k v:=by
 constructor
 .rintro⟨c,j,a,rfl,d,f⟩;refine⟨c.map λj=>E.getD j [],E.getD j [],a.map λj=>E.getD j [],by rw[vj];rfl,d,λl i=>?_⟩;let⟨g,b,rfl⟩:=vK.mp i;exact f g b
 .rintro⟨c,e,a,h,d,f⟩;let⟨p,x,q,rfl,rfl,rfl,rfl⟩:=CK h;exact⟨p,x,q,rfl,d,λg b=>f _ (vK.mpr ⟨g,b,rfl⟩)⟩
def Ik{E F:L0}(R:oN ps qs C g)(B:⇑E=⇑ps)(D:⇑F=⇑qs)(w:cP ls ps E)(y:cP ls qs F):∀i k,C i k->F.getD k []=E.getD i []:=by
 intro i
 induction i using Nat.strongRecOn with
 | ind i ih=>
  intro k m;let⟨z,A⟩:=R.lt i k m;have h:ps[i]?=some ps[i]:=vz z;have l:qs[k]?=some qs[k]:=vz A;have s:E[i]?=some (E.getD i []):=by simp_all
  have t:F[k]?=some (F.getD k []):=by simp_all
  let⟨a,b⟩:=w i _ _ h s;let⟨q,r⟩:=y k _ _ l t;let⟨p,d,o⟩:=R.f i k _ _ m h l;refine Cn q a λx v=>(r x v).trans (Iff.trans ?_ (b x v).symm)
  unfold iN;have u:(bY ps ps[i].2).map (Function.comp (λj=>F.getD j []) g)=(bY ps ps[i].2).map λj=>E.getD j []:=map_congr_left λj c=>ih j (o j c).1 _ (o j c).2
  rw[A9,A9,d,v6,u];refine or_congr Iff.rfl ⟨?_,?_⟩
  .rintro⟨x,n,e,f⟩;exact⟨x,n,p.fR.mpr e,f⟩
  .rintro⟨x,n,e,f⟩;exact⟨x,n,p.fR.mp e,f⟩
theorem C2:∀{l:L5},l≠[]->∃g∈l,∀x∈l,x<=g
 | [],h=>uf rfl h
 | [a],_=>⟨a,vq,λx c=>by simp_all⟩
 | a::b::r,_=>by
  let⟨g,e,d⟩:=C2 (l:=b::r) (λz=>by cases z);rcases Int.le_total a g with z | z
  .exact⟨g,vp _ e,λx c=>by
    rcases mem_cons.mp c with rfl | c
    .exact z
    .exact d x c⟩
  .exact⟨a,vq,λx c=>by
    rcases mem_cons.mp c with rfl | c
    .exact vA _
    .exact Int.le_trans (d x c) z⟩
def CY{f:Fm}{a:L5}(h:hI f a):∃g,hH f a g:=by
 cases f with
 | side qs=>exact(C2 h).imp λg h=>h
 | again k x=>let⟨y,r,rfl,q⟩:=h;exact⟨k*y,y,rfl,rfl⟩
 | row qs=>exact⟨_,rfl⟩
 | _=>exact⟨_,rfl⟩
def kI{R:Str->Str->Prop}{p q:Fm}(h:hU R p q){a:L5}:(hI p a↔hI q a)/\∀g,hH p a g↔hH q a g:=by
 cases p with
 | row ps=>let⟨j,rfl,j⟩:=h;exact⟨Iff.rfl,λg=>Iff.rfl⟩
 | side ps=>let⟨j,rfl,j⟩:=h;exact⟨Iff.rfl,λg=>Iff.rfl⟩
 | again k x=>let⟨j,rfl,j⟩:=h;exact⟨Iff.rfl,λg=>Iff.rfl⟩
 | _=>rw[show q=_ from h];exact⟨Iff.rfl,λg=>Iff.rfl⟩
def hU.tu{R:Str->Str->Prop}{p q:Fm}{ys:L8}(h:hU R p q)(e:q = .side ys):∃xs,p = .side xs:=by
 subst e;cases p with
 | side ps=>exact⟨_,rfl⟩
 | row ps=>let⟨j,e,j⟩:=h;cases e
 | again k x=>let⟨j,e,j⟩:=h;cases e
 | _=>cases h
def Im{gs:L5}{w:L1}(S:nY ls ps gs w)(hl:⇑w=⇑ps)(W:dA ls ps w)(R:oN ps qs C g)(n1:1<=⇑qs)(X:dC ls qs):∃gs' hs',nY ls qs gs' hs'/\gs'.getD (⇑qs-1) 0=gs.getD (⇑ps-1) 0/\⇑hs'=⇑qs/\dA ls qs hs':=by
 have⟨d,hrep⟩:∃d:Nat->Nat,∀k,k<⇑qs->C (d k) k:=by
  have h:∀k,∃i,k<⇑qs->C i k:=λk=>by
   rcases Nat.lt_or_ge k ⇑qs with z | z
   .exact(R.ex k z).imp λi h N=>h
   .exact⟨0,λh=>⋯⟩
  exact⟨λk=>(h k).choose,λk s=>(h k).choose_spec s⟩
 have y:∀{α:Type} (v:Nat->α) (k i:Nat) (p q:Str×Fm),C i k->ps[i]?=some p->qs[k]?=some q->(∀f,f<k->∀j,C j f->v j=v (d f))->(bY ps p.2).map v=(bY qs q.2).map λf=>v (d f):=λv k i p q r hp u M=>by
  let⟨N,G,l⟩:=R.f i k p q r hp u;rw[G,v6];refine map_congr_left λj A=>M (g j) ?_ j (l j A).2
  exact X.cq u (by rw[G];exact vK.mpr ⟨j,A,rfl⟩)
 have hG:∀k,k<⇑qs->∀i,C i k->gs.getD i 0=gs.getD (d k) 0:=by
  intro k
  induction k using Nat.strongRecOn with
  | ind k M=>
   intro s i r;have I:qs[k]?=some qs[k]:=vz s;have D:∀i,C i k->∀g,hH qs[k].2 ((bY qs qs[k].2).map λf=>gs.getD (d f) 0) g->g=gs.getD i 0:=λi r g L=>by
    obtain⟨p,t⟩:∃p,ps[i]?=some p:=⟨_,vz (R.lt i k r).1⟩
    have B:=y (λj=>gs.getD j 0) k i _ _ r t I λf o j l=>M f o ⋯ j l
    refine(S.ln i _ t).2 g ?_;rw[B];exact((kI (R.f i k _ _ r t I).1).2 g).mpr L
   obtain⟨p,t⟩:∃p,ps[i]?=some p:=⟨_,vz (R.lt i k r).1⟩
   have B:=y (λj=>gs.getD j 0) k i _ _ r t I λf o j l=>M f o ⋯ j l
   have Q:=(S.ln i _ t).1;rw[B]at Q;let⟨g,L⟩:=CY ((kI (R.f i k _ _ r t I).1).1.mp Q);rw[<-D i r g L,<-D (d k) (hrep k s) g L]
 have Z:∀k,k<⇑qs->∀i,C i k->w.getD i []=w.getD (d k) []:=by
  intro k
  induction k using Nat.strongRecOn with
  | ind k M=>
   intro s i r;have I:qs[k]?=some qs[k]:=vz s;have D:∀i,C i k->(w.getD i []).Pairwise (· < ·)/\∀v,v∈w.getD i []↔(∃c∈(bY qs qs[k].2).map (λf=>w.getD (d f) []),v∈c)\/∃x h n,qs[k].2 = .rise x h n/\v=(cn (bF ls) x:Nat):=λi r=>by
    have hi:=(R.lt i k r).1;obtain⟨p,t⟩:∃p,ps[i]?=some p:=⟨_,vz hi⟩
    have B:=y (λj=>w.getD j []) k i _ _ r t I λf o j l=>M f o ⋯ j l
    have F:=(R.f i k _ _ r t I).1;let⟨a,b⟩:=W i _ (w.getD i []) t (by rw[vy,vz ⋯];rfl);refine⟨a,λv=>(b v).trans (or_congr ?_ ?_)⟩
    .rw[<-B];constructor
     .rintro⟨j,l,H⟩;exact⟨_,vK.mpr ⟨j,l,rfl⟩,H⟩
     .rintro⟨c,a0,H⟩;let⟨j,l,rfl⟩:=vK.mp a0;exact⟨j,l,H⟩
    .constructor
     .rintro⟨x,h,n,e,J⟩;exact⟨x,h,n,F.fR.mp e,J⟩
     .rintro⟨x,h,n,e,J⟩;exact⟨x,h,n,F.fR.mpr e,J⟩
   have h1:=D i r;have h2:=D (d k) (hrep k s);exact um h1.1 h2.1 λv=>(h1.2 v).trans (h2.2 v).symm
 have T:∀k,k<⇑qs->((List.range ⇑qs).map λk=>gs.getD (d k) 0).getD k 0=gs.getD (d k) 0:=λk s=>by
  rw[vy,vv,List.getElem?_range s];rfl
 have O:∀k,k<⇑qs->((List.range ⇑qs).map λk=>w.getD (d k) []).getD k []=w.getD (d k) []:=λk s=>by
  rw[vy,vv,List.getElem?_range s];rfl
 have E:∀{k:Nat} {q:Str×Fm},qs[k]?=some q->∀j∈bY qs q.2,j<⇑qs:=λu j l=>by
  have:=X.cq u l;have:=(vx.mp u).1;lia
 refine⟨(List.range ⇑qs).map λk=>gs.getD (d k) 0,(List.range ⇑qs).map λk=>w.getD (d k) [],⟨X,by rw[vt,length_range],λk s=>?_,λN nl hN k s=>?_,λk q u=>?_,λk q xs u e=>?_⟩,?_⟩
 .rw[T k s];exact S.gb _ (R.lt _ k (hrep k s)).1
 .rw[O k s];exact Il R hl nl W hN _ k (hrep k s)
 .have s:=(vx.mp u).1;have r:=hrep k s;obtain⟨p,t⟩:∃p,ps[d k]?=some p:=⟨_,vz (R.lt _ k r).1⟩
  have B:=y (λj=>gs.getD j 0) k _ _ _ r t u λf o j l=>hG f ⋯ j l
  have Y:(bY qs q.2).map (λj=>((List.range ⇑qs).map λk=>gs.getD (d k) 0).getD j 0)=(bY ps p.2).map λj=>gs.getD j 0:=by
   rw[B];exact map_congr_left λj l=>T j (E u j l)
  have F:=(R.f _ k _ _ r t u).1;rw[Y,T k s];exact⟨(kI F).1.mp (S.ln _ _ t).1,λg L=>(S.ln _ _ t).2 g (((kI F).2 g).mpr L)⟩
 .have s:=(vx.mp u).1;have r:=hrep k s;obtain⟨p,t⟩:∃p,ps[d k]?=some p:=⟨_,vz (R.lt _ k r).1⟩
  have B:=y (λj=>w.getD j []) k _ _ _ r t u λf o j l=>Z f ⋯ j l
  let⟨F,G,l⟩:=R.f _ k _ _ r t u;let⟨ys,ey⟩:=F.tu e;let⟨s1,s2⟩:=S.sd _ _ ys t ey;have Y:(bY qs q.2).map (λj=>((List.range ⇑qs).map λk=>w.getD (d k) []).getD j [])=(bY ps p.2).map λj=>w.getD j []:=by
   rw[B];exact map_congr_left λj l=>O j (E u j l)
  refine⟨λj A=>?_,by rw[Y];exact s2⟩;rw[O j (E u j A)];rw[G]at A;let⟨U,K,rfl⟩:=vK.mp A;rw[<-Z _ (R.lt _ _ (l U K).2).2 U (l U K).2];exact s1 U K
 .refine⟨by rw[T _ ⋯];exact(hG _ ⋯ _ R.top).symm,by rw[vt,length_range],λk q ks u P=>?_⟩;have s:=(vx.mp u).1;have r:=hrep k s;have hi:=(R.lt _ k r).1;obtain⟨p,t⟩:∃p,ps[d k]?=some p:=⟨_,vz hi⟩
  rw[vv,List.getElem?_range s]at P;cases P;have B:=y (λj=>w.getD j []) k _ _ _ r t u λf o j l=>Z f ⋯ j l
  have F:=(R.f _ k _ _ r t u).1;let⟨a,b⟩:=W _ _ (w.getD (d k) []) t (by rw[vy,vz ⋯];rfl);refine⟨a,λv=>(b v).trans (or_congr ?_ ?_)⟩
  .constructor
   .rintro⟨j,l,H⟩;have m:w.getD j []∈(bY qs q.2).map λf=>w.getD (d f) []:=by rw[<-B];exact vK.mpr ⟨j,l,rfl⟩
    let⟨f,o,e⟩:=vK.mp m;exact⟨f,o,by rw[O f (E u f o),e];exact H⟩
   .rintro⟨f,o,H⟩;rw[O f (E u f o)]at H;have m:w.getD (d f) []∈(bY ps p.2).map λj=>w.getD j []:=by rw[B];exact vK.mpr ⟨f,o,rfl⟩
    let⟨j,l,e⟩:=vK.mp m;exact⟨j,l,by rw[e];exact H⟩
  .constructor
   .rintro⟨x,h,n,e,J⟩;exact⟨x,h,n,F.fR.mp e,J⟩
   .rintro⟨x,h,n,e,J⟩;exact⟨x,h,n,F.fR.mpr e,J⟩
end
end
structure Sa where
 d:Addr
 f:Addr
 o:Addr
 s:Addr
 l:Addr
 p:Addr
 fb:L7
 la:L7
 pa:L7
noncomputable def iG(z:Sa):List (Str×V):=cb "pieces" (.ref z.p) (cb "left" (.ref z.l) (cb "sizes" (.ref z.s) (cb "forms" (.ref z.o) (cb "first" (.ref z.f) (cb "limbs" (.ref z.d) [])))))
section
variable{z:Sa}
def Ji(h:¬a=b):(cb b v r).lookup a=r.lookup a:=by rw[Zi,vc h]
def zH:(cb a v r).lookup a=some v:=by rw[Zi,vd rfl]
def wT:(iG z).lookup ("pieces" : Str)=↥z.p:=zH
def Gh:(iG z).lookup ("left" : Str)=↥z.l:=(Ji ∅).trans zH
def zt:(iG z).lookup ("sizes" : Str)=↥z.s:=(Ji ∅).trans ((Ji ∅).trans zH)
def KB:(iG z).lookup ("forms" : Str)=↥z.o:=(Ji ∅).trans ((Ji ∅).trans ((Ji ∅).trans zH))
def FN:(iG z).lookup ("first" : Str)=↥z.f:=(Ji ∅).trans ((Ji ∅).trans ((Ji ∅).trans ((Ji ∅).trans zH)))
def xa:(iG z).lookup ("limbs" : Str)=↥z.d:=(Ji ∅).trans ((Ji ∅).trans ((Ji ∅).trans ((Ji ∅).trans ((Ji ∅).trans zH))))
def Xk{m:Str}(a:¬m = "pieces")(b:¬m = "left")(c:¬m = "sizes")(d:¬m = "forms")(e:¬m = "first")(f:¬m = "limbs"):(iG z).lookup m=none:=(Ji a).trans ((Ji b).trans ((Ji c).trans ((Ji d).trans ((Ji e).trans (Ji f)))))
theorem Jx(f:Str)(v:V):∀r:List (Str×V),⇑(cb f v r)<=⇑r+1
 | []=>vb _
 | (g,u)::r=>by
  unfold cb;split
  .exact Nat.le_succ _
  .rw[vQ,vQ];have:=Jx f v r;lia
end
def cx.less{H:Hp}(q:H a=some (.ins C dx fs))(B:cx H b pl pp las pas ls ps) :
  ∃g:Hp,(∀H',(∀c u,c≠a->H c=some u->H' c=some u)->bI g H')/\(∀{c u},g c=some u->c≠a)/\cx g b pl pp las pas ls ps:=by
 have e:∀{c:Addr} {f:N2},H c=some (.tup f)->(λc=>if c=a then none else H c) c=some (.tup f):=λ{c f} h=>by
  lia
 have m:∀{c:Addr} {f:N2},H c=some (.lst f)->(λc=>if c=a then none else H c) c=some (.lst f):=λ{c f} h=>by
  lia
 refine⟨λc=>if c=a then none else H c,λH' k c u h=>?_,λ{c u} h=>?_,e B.t,m B.l,B.la.mono λa x l=>e l,m B.p,B.pa.mono λa x l=>?_⟩
 .simp_all
 .lia
 .let⟨o,p,d⟩:=l;refine⟨o,e p,?_⟩;cases hx2:x.2 with
  | row r=>rw[hx2]at d;let⟨c,i,j⟩:=d;exact⟨c,e i,e j⟩
  | side r=>rw[hx2]at d;let⟨c,i,j⟩:=d;exact⟨c,e i,e j⟩
  | hold n=>rw[hx2]at d;exact e d
  | ring y n=>rw[hx2]at d;exact e d
  | rise y v n=>rw[hx2]at d;exact e d
  | again k y=>rw[hx2]at d;exact e d
def vT(h:⇑(cb f v r)<=n)(k:n<1000):⇑(cb f v r)<1000:=vD h k
section
variable{a b c d e:Str}{u v w x y:V}
def vU:⇑(cb c w (cb b v (cb a u [])))<1000:=by
 have:=Jx c w (cb b v (cb a u []));have:=Jx b v (cb a u []);have:=Jx a u [];simp at *;lia
def vX:⇑(cb d x (cb c w (cb b v (cb a u []))))<1000:=by
 have:=Jx d x (cb c w (cb b v (cb a u [])));have:=Jx c w (cb b v (cb a u []));have:=Jx b v (cb a u []);have:=Jx a u [];simp at *;lia
def wh:⇑(cb e y (cb d x (cb c w (cb b v (cb a u [])))))<1000:=by
 have:=Jx e y (cb d x (cb c w (cb b v (cb a u []))));have:=Jx d x (cb c w (cb b v (cb a u [])));have:=Jx c w (cb b v (cb a u []));have:=Jx b v (cb a u []);have:=Jx a u [];simp at *;lia
end
noncomputable def dj(es:Np)(h:L5):L5:=es.foldl (λh q=>h.set q.1.toNat q.2) h
def QR(q:Int×Int)(r:Np)(h:L5):dj (q::r) h=dj r (h.set q.1.toNat q.2):=rfl
theorem Wp:∀(es:Np) (h:L5),⇑(dj es h)=⇑h
 | [],_=>rfl
 | q::r,h=>by rw[QR,Wp r,length_set]
section
variable{L:L8}{fs:List Fn}{M:L1}{gs:L5}{names:L8}{ls:L4}{n:Nat}{E:L0}
theorem wU{b c a:Type}{g:b->List c}{f:a->c->a}:∀{l:List b} {h:a},(l.flatMap g).foldl f h=l.foldl (λh x=>(g x).foldl f h) h
 | [],_=>rfl
 | x::r,h=>by rw[flatMap_cons,foldl_append,v7,wU]
theorem KE{b a:Type}{f g:a->b->a}:∀{l:List b} {h:a},(∀x∈l,∀h,f h x=g h x)->l.foldl f h=l.foldl g h
 | [],_,_=>rfl
 | x::r,h,e=>by rw[v7,v7,e x vq,KE λy c=>e y (vp _ c)]
end
section
variable{α β:Type}
theorem BK{f:β->α->β}{x:α}:∀{ys:List α} {h:β},(∀y∈ys,∀h,f (f h x) y=f (f h y) x)->f (ys.foldl f h) x=ys.foldl f (f h x)
 | [],_,_=>rfl
 | y::r,h,k=>by
  rw[v7,v7,k y vq h];exact BK λz a=>k z (vp _ a)
theorem KC{f:β->α->β}{p:α->Bool}:∀{R:List α} {h:β},R.Pairwise (λx y=>p x=false->p y=true->∀h,f (f h x) y=f (f h y) x)->
  (R.filter λx=>!p x).foldl f ((R.filter p).foldl f h)=R.foldl f h
 | [],_,_=>rfl
 | x::r,h,k=>by
  rw[vV]at k;cases e:p x with
  | true=>
   have a:(x::r).filter (λx=>!p x)=r.filter λx=>!p x:=by simp_all
   rw[a,List.filter_cons_of_pos e,v7,v7];exact KC k.2
  | false=>
   have a:(x::r).filter (λx=>!p x)=x::r.filter λx=>!p x:=by simp_all
   have b:(x::r).filter p=r.filter p:=by simp_all
   have c:f ((r.filter p).foldl f h) x=(r.filter p).foldl f (f h x):=BK λy d h=>k.1 y (vP.mp d).1 e (vP.mp d).2 h
   rw[a,b,v7,v7,c];exact KC k.2
theorem KD{f:β->α->β}{p:α->Bool}:∀{R:List α} {h:β},(∀x∈R,p x=false->∀h,f h x=h)->(R.filter p).foldl f h=R.foldl f h
 | [],_,_=>rfl
 | x::r,h,k=>by
  cases e:p x with
  | true=>
   rw[List.filter_cons_of_pos e,v7,v7];exact KD λy a=>k y (vp _ a)
  | false=>
   rw[List.filter_cons_of_neg (by simp[e]),v7,k x vq e];exact KD λy a=>k y (vp _ a)
end
section
variable{ls:L4}{ps:N1}{gs:L5}{hs:L1}{E:L0}{t:Int}
noncomputable def iI(gs:L5)(x:Nat×Int):Bool:=decide (gs.getD x.1 0<=x.2)
noncomputable def fC(ps:N1)(gs:L5)(x:Nat×Int):Bool:=(bZ ps gs x.1).isEmpty
def Dj(gs:L5)(hs:L1)(a b:Nat×Int):Prop:=iI gs a=false->∀k∈hs.getD a.1 [],k∉hs.getD b.1 []
def Dj.ov{a b:Nat×Int}(h:gs.getD a.1 0<=a.2):Dj gs hs a b:=λz=>by
 unfold iI at z;rw[vG h]at z;cases z
def HS{l r:L3}(h:∀a∈l,gs.getD a.1 0<=a.2)(k:⇑r<=1):(l++r).Pairwise (Dj gs hs):=by
 induction l with
 | nil=>
  match r,k with
  | [],_=>exact .nil
  | [a],_=>exact pairwise_singleton _ _
 | cons a l ih=>exact vV.mpr ⟨λb q=>.ov (h a vq),ih λb c=>h b (vp _ c)⟩
theorem Dy:∀{is:L6} {b:Int},(∀k∈is,1<=gs.getD k 0/\gs.getD k 0<=10^60)->(du gs t (cu gs is b)).Pairwise (Dj gs hs)
 | [],b,_=>.nil
 | j::r,b,hg=>by
  by_cases h:b<=t
  .rw[Bp hg h];split
   .exact vV.mpr ⟨λb q=>.ov (vA _),Dy λk a=>hg k (vp _ a)⟩
   .exact pairwise_singleton _ _
  .rw[Wm (λk a=>by have:=hg k a;lia) ⋯];exact .nil
theorem Bv:∀{is:L6},(∀k:Int,⇑((is.map λj=>hs.getD j []).filter λks=>decide (k∈ks))<=1)->is.Pairwise λj b=>∀k∈hs.getD j [],k∉hs.getD b []
 | [],_=>.nil
 | j::r,h=>by
  refine vV.mpr ⟨λb c a e d=>?_,Bv λk=>?_⟩
  .have:=h a
   simp_all
  .have:=h k;rw[v9,v8]at this;split at this
   .rw[vQ]at this;lia
   .exact this
def LS(N:Sn ls ps gs hs){i:Nat}(hi:i<⇑ps)(s:0<=t):(du gs t (bZ ps gs i)).Pairwise (Dj gs hs):=by
 obtain⟨p,o⟩:∃p,ps[i]?=some p:=⟨_,vz hi⟩
 have l:bZ ps gs i=dt gs p.2 (bY ps p.2):=by unfold bZ;rw[o]
 have d:∀k∈bY ps p.2,1<=gs.getD k 0/\gs.getD k 0<=10^60:=λk m=>by
  have:=N.s.w.cq o m;exact N.g ⋯
 rw[l];cases e:p.2 with
 | again k x=>
  rw[e]at d;rw[show bY ps (.again k x)=[cn (bF ps) x]from rfl]at d|-;have g:=(d _ vq).1;generalize cn (bF ps) x=j at g|-;show(du gs t ((j,1,0)::(if 1<k then[(j,k-1,gs.getD j 0)]else[]))).Pairwise _;rw[zV,ur g s,Int.sub_zero];by_cases c:gs.getD j 0<=t
  .rw[vd c];split
   .rw[zV,CU,append_nil,CQ (show gs.getD j 0<=t from c),<-List.append_assoc];refine HS (λa u=>?_) (by split<;>simp);have:a=(j,gs.getD j 0):=by
     rcases vh.mp u with z | z
     .exact vo.mp z
     .split at z
      .exact vo.mp z
      .exact nomatch z
    rw[this];exact vA _
   .exact pairwise_singleton _ _
  .rw[vc c];have z:du gs t (if 1<k then[(j,k-1,gs.getD j 0)]else[])=[]:=by
    split
    .exact Ka λq w=>by rw[vo.mp w];show t<gs.getD j 0;lia
    .rfl
   rw[z];exact pairwise_singleton _ _
 | row xs=>rw[e]at d;exact Dy d
 | side xs=>
  let⟨q,f⟩:=N.s.sd i p xs o e;rw[e]at d f;show(du gs t ((bY ps (.side xs)).map λj=>(j,1,0))).Pairwise _;rw[Wt (λk m=>(d k m).1) s];refine pairwise_map.mpr ((Bv f).imp λ{a b} h=>?_);have r:∀j:Nat,(if gs.getD j 0<=t then(j,gs.getD j 0)else(j,t)).1=j:=λj=>by split<;>rfl
  intro q;rw[r,r];exact h
 | hold n=>exact .nil
 | ring x n=>exact .nil
 | rise x v n=>exact .nil
def LR{i:Nat}{p:Str×Fm}(b:ps[i]?=some p){x:Nat×Int}(h:x∈du gs t (bZ ps gs i)):x.1∈bY ps p.2:=by
 let⟨q,a,e⟩:=Xz h;unfold bZ at a;rw[b]at a;rw[e];exact kJ a
def Yl(N:Sn ls ps gs hs):∀{i:Nat} {t:Int} {x:Nat×Int},i<⇑ps->x∈reach ps gs i t->∀k∈hs.getD x.1 [],k∈hs.getD i []:=by
 intro i
 induction i using Nat.strongRecOn with
 | ind i ih=>
  intro t x c a k b;by_cases h:gs.getD i 0<=t\/bZ ps gs i=[]
  .rw[j4 h]at a;rw[vo.mp a]at b;exact b
  .rw[Jv N.s.w h]at a;let⟨y,e,a⟩:=mem_flatMap.mp a;have f:=QD N.s.w e;have d:=vz c;exact((N.m i _ _ d (YV N.s N.hl c)).2 k).mpr (.inl ⟨y.1,LR d e,ih y.1 f ⋯ a k b⟩)
def GQ(N:Sn ls ps gs hs):∀{i:Nat} {t:Int},i<⇑ps->0<=t->(reach ps gs i t).Pairwise (Dj gs hs):=by
 intro i
 induction i using Nat.strongRecOn with
 | ind i ih=>
  intro t l r;by_cases h:gs.getD i 0<=t\/bZ ps gs i=[]
  .rw[j4 h];exact pairwise_singleton _ _
  .rw[Jv N.s.w h];refine List.pairwise_flatMap.mpr ⟨λa c=>?_,(LS N l r).imp_of_mem λ{a b} c j d x g y o z k m f=>?_⟩
   .have:=QD N.s.w c;exact ih a.1 this ⋯ (Wy (λq n=>N.mP n) c)
   .have s:=QD N.s.w c;have u:=QD N.s.w j;have p:iI gs a=false:=by
     cases e:iI gs a with
     | false=>rfl
     | true=>
      rw[j4 (.inl (of_decide_eq_true e))]at g
      simp_all
    exact d p k (Yl N ⋯ g k m) (Yl N ⋯ o k f)
noncomputable def lM(ls:L4)(ps:N1)(h:L5)(x:Nat×Int):L5:=match ps[x.1]? with
 | some (_,.rise y v n)=>h.set (cn (bF ls) y) (Rp.ramp (h.getD (cn (bF ls) y) 0) v n x.2)
 | _=>h
def Am{h:L5}{x:Nat×Int}(c:iI gs x=true):cS ls ps gs E h x=dj (E.getD x.1 []) h:=by
 unfold cS;rw[vd (of_decide_eq_true c)];rfl
def An{h:L5}{x:Nat×Int}(c:iI gs x=false):cS ls ps gs E h x=lM ls ps h x:=by
 unfold cS;rw[vc (of_decide_eq_false c)];rfl
theorem Br{k:Nat}{v:Int}:∀{es:Np} {h:L5},(∀q∈es,q.1.toNat≠k)->dj es (h.set k v)=(dj es h).set k v
 | [],_,_=>rfl
 | q::r,h,n=>by
  rw[QR,QR,List.set_comm _ _ (n q vq).symm];exact Br λy a=>n y (vp _ a)
theorem YM{k:Nat}:∀{es:Np} {h:L5},(∀q∈es,q.1.toNat≠k)->(dj es h).getD k 0=h.getD k 0
 | [],_,_=>rfl
 | q::r,h,n=>by
  rw[QR,YM λy a=>n y (vp _ a),vy,vy,List.getElem?_set_ne (n q vq)]
def Xi(N:Sn ls ps gs hs)(b:⇑E=⇑ps)(c:cP ls ps E)(hi:i<⇑ps)(a:q∈E.getD i []):q.1∈hs.getD i []:=by
 have:=N.s.mv _ (by simp_all) (C5 b c) i hi;rw[<-this,vy,vv,vz ⋯];rw[vy,vz ⋯]at a;exact vK.mpr ⟨q,a,rfl⟩
def Ie(N:Sn ls ps gs hs)(o:⇑E=⇑ps)(i:cP ls ps E){x y:Nat×Int}(k:x.1<⇑ps)(l:y.1<⇑ps)(a:iI gs x=false)(c:iI gs y=true)(d:Dj gs hs x y)(h:L5) :
  cS ls ps gs E (cS ls ps gs E h x) y=cS ls ps gs E (cS ls ps gs E h y) x:=by
 rw[Am c,Am c,An a,An a];unfold lM;split
 .rename_i nm z v n hp;have j:((cn (bF ls) z:Nat):Int)∈hs.getD x.1 []:=((N.m x.1 _ _ hp (YV N.s N.hl k)).2 _).mpr (.inr ⟨z,v,n,rfl,rfl⟩);have g:∀q∈E.getD y.1 [],q.1.toNat≠cn (bF ls) z:=λq f e=>by
   have b:=(y9 N.s.w ⋯ i y.1 q f).1;have m:=Xi N o i l f;rw[show q.1=((cn (bF ls) z:Nat):Int) by lia]at m;exact d a _ j m
  rw[Br g,YM g]
 .rfl
noncomputable def eI(ls:L4)(ps:N1)(gs:L5)(E:L0)(t:Int):L5:=((reach ps gs (⇑ps-1) t).filter (iI gs)).foldl (λh x=>dj (E.getD x.1 []) h) (ls.map (·.2))
def FX{x:Nat×Int}{y:Str}{v n:Int}{b:Str}(a:ps[x.1]?=some (b,.rise y v n)):fC ps gs x=true:=by
 unfold fC bZ;rw[a];rfl
def Ep(N:Sn ls ps gs hs)(o:⇑E=⇑ps)(q:cP ls ps E)(r:0<=t){P:L3}(l:P.filter (fC ps gs)=(reach ps gs (⇑ps-1) t).filter λx=>!iI gs x) :
  P.foldl (lM ls ps) (eI ls ps gs E t)=cH ls ps gs E t:=by
 have s:=N.ne;have i:∀x∈reach ps gs (⇑ps-1) t,x.1<⇑ps:=λx e=>Yk N.s.w ⋯ e
 rw[<-KD (p:=fC ps gs) (λx Z c h=>?_),l]
 .unfold cH eI;rw[<-KC (p:=iI gs) (f:=cS ls ps gs E) ((GQ N (show ⇑ps-1<⇑ps by lia) r).imp_of_mem λ{a b} m n d j k h=>Ie N o q (i a m) (i b n) j k d h)];rw[KE (f:=cS ls ps gs E) (g:=lM ls ps) λx e h=>An (by simp_all)];rw[KE (f:=cS ls ps gs E) (g:=λh x=>dj (E.getD x.1 []) h) λx e h=>Am (vP.mp e).2]
 .unfold lM;split
  .rename_i hp;rw[FX hp]at c;cases c
  .rfl
end
structure cR(C:Addr)(H:Hp)(a:Addr)(z:Sa)(ls:L4)(ps:N1)(gs:L5)(E:L0):Prop where
 ob:∃dx,H a=some (.ins C dx (iG z))
 hd:H z.d=some (.dK (fI (bF ls)))
 hf:H z.f=some (.lst ((ls.map (·.2)).map V.int))
 ho:H z.o=some (.lst (z.fb.map V.ref))
 fo:bL (λa p=>bN H a p.2) z.fb ps
 hs:H z.s=some (.lst (gs.map V.int))
 hl:H z.l=some (.lst (z.la.map V.ref))
 el:⇑E=⇑ps
 ea:lO H z.la E
 eo:cP ls ps E
 hp:H z.p=some (.lst (z.pa.map V.ref))
 pa:nv H z.pa (ps.map λp=>dt gs p.2 (bY ps p.2))
def cR.same{C:Addr}{H H':Hp}{a:Addr}{z:Sa}{ls:L4}{ps:N1}{gs:L5}{E:L0}(A:cR C H a z ls ps gs E)(s:bI H H'):cR C H' a z ls ps gs E:=
 ⟨A.ob.imp λg h=>s _ _ h,s _ _ A.hd,s _ _ A.hf,s _ _ A.ho,bL.mono A.fo λa p h=>bN.same s h,s _ _ A.hs,s _ _ A.hl,A.el,bL.mono A.ea λa e ⟨c,d,f⟩=>⟨c,s _ _ d,bL.mono f λb q h=>s _ _ h⟩,A.eo,
  s _ _ A.hp,bL.mono A.pa λa e ⟨c,d,f⟩=>⟨c,s _ _ d,bL.mono f λb q h=>s _ _ h⟩⟩
inductive fS(C:Addr)(vs:N2)(H:Hp)(Q:VK)(xk:XK):Prop
 | mk (a dx b pl pp las pas ls ps gs hs):vs=[.ref a,.ref b]->H a=some (.ins C dx [])->cx H b pl pp las pas ls ps->Sn ls ps gs hs->(∀(z:Sa) (E:L0) (H':Hp),(∀c u,c≠a->H c=some u->H' c=some u)->cR C H' a z ls ps gs E->Q .cE H')->fS C vs H Q xk
inductive dO(C:Addr)(vs:N2)(H:Hp)(Q:VK)(xk:XK):Prop
 | mk (a z) (ls:L4) (ps:N1) (gs:L5) (hs E t):vs=[.ref a,.int t]->cR C H a z ls ps gs E->Sn ls ps gs hs->0<=t->t<=gs.getD (⇑ps-1) 0->(∀(l:Addr) (H':Hp),bI H H'->H l=none->H' l=some (.lst ((cH ls ps gs E t).map V.int))->⇑(cH ls ps gs E t)=⇑ls->Q (.ref l) H')->dO C vs H Q xk
def bN.put{H H':Hp}{a:Addr}{f:Fm}(k:∀b xs,H b=some (.tup xs)->H' b=some (.tup xs))(h:bN H a f):bN H' a f:=by
 cases f with
 | row ps=>let⟨c,d,e⟩:=h;exact⟨c,k _ _ d,k _ _ e⟩
 | side ps=>let⟨c,d,e⟩:=h;exact⟨c,k _ _ d,k _ _ e⟩
 | hold n=>exact k _ _ h
 | ring x n=>exact k _ _ h
 | rise x v n=>exact k _ _ h
 | again k' x=>exact k _ _ h
theorem DA{a:Type}{f:a->Nat}:∀{l:List a},(∀x∈l,1<=f x)->⇑l<=(l.map f).sum
 | [],_=>vb _
 | x::r,h=>by
  have c:=h x vq;have d:=DA (l:=r) λy b=>h y (vp _ b)
  rw[v9,uz,vQ];lia
section
variable{ls:L4}{ps:N1}{gs:L5}{E:L0}{D:L3}{x:Nat×Int}
noncomputable def mh(ls:L4)(gs:L5)(E:L0)(D:L3):L5:=(D.filter (iI gs)).foldl (λh x=>dj (E.getD x.1 []) h) (ls.map (·.2))
def wY(h:iI gs x=false):mh ls gs E (if fC ps gs x=true then D++[x]else D)=mh ls gs E D:=by
 split
 .unfold mh;rw[filter_append,List.filter_cons_of_neg (by rw[h];decide)]
  simp_all
 .rfl
def wZ(h:iI gs x=true):mh ls gs E (D++[x])=dj (E.getD x.1 []) (mh ls gs E D):=by
 unfold mh
 simp_all
def xq(W:dC ls ps){i:Nat}{t:Int}(c:t<gs.getD i 0):1+((du gs t (bZ ps gs i)).map λx=>nodes ps gs x.1 x.2).sum<=nodes ps gs i t:=by
 by_cases e:bZ ps gs i=[]
 .rw[e,ye (.inr e)];exact vb _
 .rw[Y6 W (λh=>h.elim (λz=>⋯) e)];exact vb _
end
structure sf(ls:L4)(ps:N1)(gs:L5)(E:L0)(t0:Int)(H H':Hp)(p1 p2 p4:Addr)(pas tas:L7)(D P S:L3):Prop where
 sm:bI H H'
 e1:H' p1=some (.lst ((mh ls gs E D).map V.int))
 e2:H' p2=some (.lst (pas.map V.ref))
 eT:H' p4=some (.lst (tas.map V.ref))
 gP:eM H' pas P
 gT:eM H' tas S
 inv:D++S.reverse.flatMap (λx=>reach ps gs x.1 x.2)=reach ps gs (⇑ps-1) t0
 hS:∀x∈S,x.1<⇑ps/\0<=x.2
 hP:P.filter (fC ps gs)=D.filter λx=>!iI gs x
 bP:∀x∈P,x.1<⇑ps/\0<=x.2/\x.2<gs.getD x.1 0
 Mn:⇑P+(S.map λx=>nodes ps gs x.1 x.2).sum<=5000
 ll:⇑(mh ls gs E D)=⇑ls
 hb:∀h∈mh ls gs E D,0<=h/\h<=10^18
noncomputable def c9(c k:Int):Int:=(c%10^30+k*k+1)*314159265358979323846264338327%(10^30+57)
def Q4(c k:Int):0<=c9 c k/\c9 c k<10^30+57:=⟨ve _ nofun,vf _ nofun⟩
def kY:Sp:=λvs H Q q=>∃c k:Int,vs=[.int c,.int k]/\0<=k/\k<=10^20/\Q (.int (c9 c k)) H
inductive gw(K:cg)(vs:N2)(H:Hp)(Q:VK)(xk:XK):Prop
 | mk (a) (ns:L5) (j k):vs=[.ref a,.int j,.int k]->bK K H a (ns.map V.int)->⇑ns<=63->0<=j->j<=60->0<=k->k<=10^18->Q (.int (c9 (Pr.cell ns j) k*c9 (Pr.cell ns (j+1)) (k+20))) H->gw K vs H Q xk
noncomputable def fi(x y m:Int):Int×Int×Int:=if 0<x then(x%m,x/m,y)else(c9 ((y+m)*314159265358979323846264338327%(10^30+57)) m/1000%m,x,c9 ((y+m)*314159265358979323846264338327%(10^30+57)) m)
def Jt(h:1<=m):0<=(fi x y m).1/\(fi x y m).1<m:=by
 unfold fi;split<;>exact⟨ve _ ⋯,vf _ ⋯⟩
inductive fh(vs:N2)(H:Hp)(Q:VK)(xk:XK):Prop
 | mk (p x y m):vs=[.ref p,.int m]->H p=some (.lst [.int x,.int y])->1<=m->m<=10^20->0<=y->y<10^30+57->(∀H',Ex p H H'->H' p=some (.lst [.int (fi x y m).2.1,.int (fi x y m).2.2])->Q (.int (fi x y m).1) H')->fh vs H Q xk
noncomputable def A1:Str:=Str.ofString "abcdefghijklnopqrstuvwxyz"
noncomputable def iL(p k:Nat):Str:=Txt.slice "mm" none (some (p:Int))++(⟨#[A1.cps.toList.getD (k%25) 97]⟩:Str)++(⟨#[if k<25 then 110 else 111]⟩:Str)++Txt.slice "mm" (some (p:Int)) none
inductive fV(vs:N2)(H:Hp)(Q:VK)(xk:XK):Prop
 | mk (p k):vs=[.int (p:Nat),.int (k:Nat)]->p<3->k<50->Q (.str (iL p k)) H->fV vs H Q xk
def BD:⇑(Txt.slice x a b)<=⇑x:=Io
noncomputable def iH(nm:L8)(gs:L5):List (Key×V):=(nm.zip gs).map λp=>(Sum.inr p.1,.int p.2)
def A7(h:⇑nm=⇑gs):(iH nm gs).map (·.1)=nm.map Sum.inr:=by
 unfold iH;rw[v6];have e:(Function.comp (λx:Key×V=>x.1) λp:Str×Int=>((Sum.inr p.1:Key),V.int p.2))=Function.comp (λx:Str=>(Sum.inr x:Key)) Prod.fst:=rfl;rw[e,<-v6,List.map_fst_zip ⋯]
def kH(c:nm.Nodup)(h:⇑nm=⇑gs)(b:j<⇑nm):cO (iH nm gs) (Sum.inr (nm.getD j ⟨#[]⟩))=some (.int (gs.getD j 0)):=by
 refine Ww (j:=j) (by rw[A7 h];exact pairwise_map.mpr (c.imp λh e=>h (Sum.inr.inj e))) ?_;have a:j<⇑gs:=⋯
 have e:(nm.zip gs)[j]?=some (nm[j],gs[j]):=List.getElem?_zip_eq_some.mpr ⟨vz b,vz a⟩;unfold iH
 simp_all
inductive fg(vs:N2)(H:Hp)(Q:VK)(xk:XK):Prop
 | mk (fa d f) (nm:L8) (gs:L5) (L M):vs=[.ref fa,.ref d]->bN H fa (cL nm f)->H d=some (.dK (iH nm gs))->nm.Nodup->⇑nm=⇑gs->dS L M ⇑nm f->(∀j,j<⇑nm->1<=gs.getD j 0/\gs.getD j 0<=10^60)->(∀(g:Int) (H':Hp),bI H H'->fx gs f g->Q (.int g) H')->fg vs H Q xk
def ny(H:Hp)(as:L7)(Ms:List L8):Prop:=bL (λa ks=>H a=some (.lst (ks.map V.str))) as Ms
noncomputable def sX:Fn->L6
 | .row is=>is
 | .side is=>is
 | _=>[]
def mD(Ms:List L8)(f:Fn)(ks:L8):Prop:=ks.Nodup/\∀s,s∈ks↔(∃j∈f.js,s∈Ms.getD j [])\/∃h n,f = .rise s h n
inductive fq(vs:N2)(H:Hp)(Q:VK)(xk:XK):Prop
 | mk (fa nl ml) (mas:L7) (f) (nm:L8) (Ms:List L8) (L M):vs=[.ref fa,.ref nl,.ref ml]->bN H fa (cL nm f)->H nl=some (.lst (nm.map V.str))->H ml=some (.lst (mas.map V.ref))->ny H mas Ms->nm.Nodup->Ms.length=⇑nm->⇑nm<=20->dS L M ⇑nm f->(∀ks∈Ms,⇑ks<=8)->(∀(l:Addr) (ks:L8) (H':Hp),bI H H'->H l=none->H' l=some (.lst (ks.map V.str))->mD Ms f ks->⇑ks<=80->Q (.ref l) H')->fq vs H Q xk
theorem Xn(n:Str):∀hs:L8,mN (.str n) (hs.map V.str)=decide (n∈hs)
 | []=>by simp[mN]
 | h::r=>by
  have a:=Xn n r;unfold mN at a|-;rw[v9,any_cons,a];have e:me (.str h) (.str n)=decide (h=n):=by
   show(h==n)=_
   lia
  rw[e,Bool.eq_iff_iff]
  grind
theorem iP:∀hs:L8,(hs.map V.str).all dU=true
 | []=>rfl
 | h::r=>by rw[v9,all_cons,iP r];rfl
def sO{xs:L8}(d:xs.Nodup){j:Nat}(g:j<⇑xs):(xs.map V.str)[j]?=some (.str (xs.getD j ⟨#[]⟩))/\me (.str (xs.getD j ⟨#[]⟩)) (.str (xs.getD j ⟨#[]⟩))=true/\∀(n:Nat) (z:V),n<j->(xs.map V.str)[n]?=some z->me z (.str (xs.getD j ⟨#[]⟩))=false:=by
 have h:xs[j]?=some (xs.getD j ⟨#[]⟩):=by simp_all
 refine⟨by rw[vv,h];rfl,(by show(xs.getD j ⟨#[]⟩==xs.getD j ⟨#[]⟩)=true;exact beq_self_eq_true _),λn z i c=>?_⟩;rw[vv]at c;let⟨w,f,rfl⟩:=vg.mp c;show(w==xs.getD j ⟨#[]⟩)=false;refine beq_eq_false_iff_ne.mpr λe=>?_
 rw[<-e]at h;have a:=j2 d f;have b:=j2 d h;lia
noncomputable def gS(L ks:L8):L5:=((List.range ⇑L).filter λi=>decide (L.getD i ⟨#[]⟩∈ks)).map λi:Nat=>(i:Int)
def yj:k∈gS L ks↔∃(i:Nat) (s:Str),L[i]?=some s/\s∈ks/\k=(i:Int):=by
 unfold gS;constructor
 .intro h;let⟨i,d,rfl⟩:=vK.mp h;let⟨a,c⟩:=vP.mp d;have b:=v4.mp a;refine⟨i,L[i],vz b,?_,rfl⟩;have:=of_decide_eq_true c;rw[vy,vz b]at this;exact this
 .rintro⟨i,s,a,c,rfl⟩;have b:=(vx.mp a).1;refine vK.mpr ⟨i,vP.mpr ⟨v4.mpr b,vG ?_⟩,rfl⟩;rw[vy,a];exact c
def Lj:(gS L ks).Pairwise (· < ·):=by
 unfold gS;refine pairwise_map.mpr ?_;refine(List.Pairwise.filter _ (List.pairwise_lt_range (n:=⇑L))).imp λ{a b} h=>?_
 lia
def pO(L:L8)(Ms:List L8):Prop:=∀ks∈Ms,ks.Nodup/\∀s∈ks,s∈L
def pO.at'(I:pO L Ms)(j:Nat):∀s∈Ms.getD j [],s∈L:=λs a=>by
 rw[vy]at a;cases e:Ms[j]? with
 | none=>rw[e]at a;cases a
 | some ks=>rw[e]at a;exact(I ks (vm e)).2 s a
def Gq{a b:L8}(d:a.Nodup)(h:∀x∈a,x∈b):⇑a<=⇑b:=by
 induction a generalizing b with
 | nil=>exact va _
 | cons x r ih=>
  rw[uo]at d;have f:=h x vq;have:=ih (b:=b.erase x) d.2 λy g=>by
   have c:y≠x:=λe=>d.1 (e▸g)
   exact(List.mem_erase_of_ne c).mpr (h y (vp _ g))
  rw[List.length_erase_of_mem f]at this;have:0<⇑b:=length_pos_of_mem f;rw[vQ];lia
def pO.len{L:L8}{Ms:List L8}(I:pO L Ms){ks:L8}(h:ks∈Ms):⇑ks<=⇑L:=Gq (I ks h).1 (I ks h).2
def kS{L:L8}{Ms:List L8}(j:Nat):(Ms.map (gS L)).getD j []=gS L (Ms.getD j []):=by
 rw[vy,vy,vv];cases Ms[j]? with
 | none=>
  show[]=gS L [];refine(List.eq_nil_iff_forall_not_mem.mpr λk a=>?_).symm;let⟨q,q,q,h,q⟩:=yj.mp a;cases h
 | some x=>rfl
def Lk(h:∀s∈ks,s∈L)(n:ks≠[]):gS L ks≠[]:=λz=>by
 let⟨s,a⟩:=List.exists_mem_of_ne_nil ks n;let⟨i,b⟩:=List.mem_iff_getElem?.mp (h s a);have:=yj.mpr ⟨i,s,b,a,rfl⟩;rw[z]at this;cases this
def iS(Ms:List L8)(is:L6):Prop:=(∀j∈is,Ms.getD j []≠[])/\is.Pairwise λa b=>∀s∈Ms.getD a [],¬s∈Ms.getD b []
def iS.n(I:pO L Ms)(h:iS Ms is):mY (Ms.map (gS L)) is:=by
 refine⟨λj g=>?_,h.2.imp λ{a b} d k f c=>?_⟩
 .rw[kS];exact Lk (I.at' j) (h.1 j g)
 .rw[kS]at f c;let⟨i,s,n,o,rfl⟩:=yj.mp f;let⟨l,r,p,q,e⟩:=yj.mp c;have m:i=l:=⋯
  simp_all
def mD.n(h:mD Ms f ks):mB L (Ms.map (gS L)) f (gS L ks):=by
 refine⟨Lj,λk=>?_⟩;rw[yj];constructor
 .rintro⟨i,s,a,b,rfl⟩;rcases(h.2 s).mp b with⟨j,c,g⟩ | ⟨v,n,e⟩
  .exact .inl ⟨j,c,by rw[kS];exact yj.mpr ⟨i,s,a,g,rfl⟩⟩
  .exact .inr ⟨s,v,n,i,e,a,rfl⟩
 .rintro(⟨j,c,d⟩ | ⟨x,v,n,i,e,a,rfl⟩)
  .rw[kS]at d;let⟨i,s,a,b,rfl⟩:=yj.mp d;exact⟨i,s,a,(h.2 s).mpr (.inl ⟨j,c,b⟩),rfl⟩
  .exact⟨i,x,a,(h.2 x).mpr (.inr ⟨v,n,e⟩),rfl⟩
def mD.D8{L:L8}{Ms:List L8}{f:Fn}{ks:L8}{M:L1}{n:Nat}(I:pO L Ms)(p:dS L M n f)(h:mD Ms f ks):ks.Nodup/\∀s∈ks,s∈L:=by
 refine⟨h.1,λs c=>?_⟩;rcases(h.2 s).mp c with⟨j,_,b⟩ | ⟨v,n,e⟩
 .exact I.at' j s b
 .subst e;let⟨⟨i,a⟩,q⟩:=p;exact vm a
def l6.uX{L:L8}{h:List Fn}{M:L1}{gs:L5}{f:Fn}{ks:L5}{g:Int}(D:l6 L h M gs)(q:dS L M ⇑h f)(u:mB L M f ks)(v:fx gs f g)(w:1<=g/\g<=10^60):l6 L (h++[f]) (M++[ks]) (gs++[g]):=by
 have r:=D.ml;have p:=D.gl;refine⟨by simp[r],by simp[p],λi o d=>?_,λi l=>?_⟩
 .by_cases l:i<⇑h
  .rw[vB l]at d;let⟨a,b,c⟩:=D.f i o d;have m:=a.js.2;rw[Qx ⋯,Qx ⋯];exact⟨a.ext ⋯,b.ext λj k=>by have:=m j k;lia,c.ext λj k=>by have:=m j k;lia⟩
  .rw[vC ⋯]at d;have n:i=⇑h:=by
    have:=(vx.mp d).1;simp at this;lia
   subst n;rw[Nat.sub_self]at d;have e:o=f:=(vL d).symm;subst e;have m:=q.js.2;have s:(M++[ks]).getD ⇑h []=ks:=by rw[<-r];exact ya
   have t:(gs++[g]).getD ⇑h 0=g:=by rw[<-p];exact ya
   rw[s,t];exact⟨q.ext ⋯,u.ext λj k=>by have:=m j k;lia,v.ext λj k=>by have:=m j k;lia⟩
 .rw[vn]at l;have l:i<⇑h+1:=l;by_cases c:i<⇑h
  .rw[Qx ⋯];exact D.g i c
  simp_all
def ID(p:dS L M n f)(l:fx gs f g)(b:∀j,j<n->1<=gs.getD j 0):1<=g:=by
 cases f with
 | hold m=>let⟨c,o⟩:=p;have e:g=m:=l;lia
 | ring x m=>let⟨c,o,Z⟩:=p;have e:g=m:=l;lia
 | rise x v m=>let⟨Z,Z,Z,c,o⟩:=p;have e:g=m:=l;lia
 | row is=>
  let⟨c,o,d⟩:=p;have e:g=(is.map λj=>gs.getD j 0).sum:=l;have q:∀a:L6,(∀j∈a,j<n)->0<=(a.map λj=>gs.getD j 0).sum:=λa=>by
   induction a with
   | nil=>exact λZ=>vA _
   | cons j a ih=>
    intro h;rw[v9,uz];have:=b j (h j vq);have:=ih λi r=>h i (vp _ r)
    lia
  cases is with
  | nil=>exact uf rfl c
  | cons j a=>
   rw[e,v9,uz];have u:=b j (d j vq);have:=q a λi r=>d i (vp _ r)
   lia
 | side is=>
  let⟨Z,Z,d,Z⟩:=p;let⟨⟨j,t,e⟩,Z⟩:=l;have:=b j (d j t);lia
 | again k j=>
  let⟨c,o,d⟩:=p;have e:g=k*gs.getD j 0:=l;have s:=b j d;have:=Int.mul_le_mul c s nofun ⋯;lia
def fx.uniq(h:fx gs f g)(h':fx gs f g'):g=g':=by
 cases f with
 | side is=>
  let⟨⟨j,b,e⟩,m⟩:=h;let⟨⟨c,a,i⟩,d⟩:=h';have:=m c a;have:=d j b;lia
 | hold n=>exact Eq.trans h (Eq.symm h')
 | ring x n=>exact Eq.trans h (Eq.symm h')
 | rise x v n=>exact Eq.trans h (Eq.symm h')
 | row is=>exact Eq.trans h (Eq.symm h')
 | again k j=>exact Eq.trans h (Eq.symm h')
def mJ(xs:L8):PyData.eqv (.list (xs.map PyData.str)) (.list [])=decide (xs=[]):=by
 cases xs<;>simp[PyData.eqv,PyData.eqvAll]
def mR{xs:L8}(h:∀x∈xs,Ws.fG x=true):SeqAt.shaped (.list (xs.map PyData.str))=true:=(dN.lst (n:=0) (GV h)).ok nofun
def ym(n:Str)(a:L8):(if false=true then !mN (.str n) (a.map V.str)else mN (.str n) (a.map V.str))=decide (n∈a):=by rw[vc nofun,Xn]
def Bw{xs:N2}{k:Int}(h:∀v∈xs,∃w:Str,v = .str w/\Ws.fG w=true)(c:0<=k)(d:k<(⇑xs:Int)):∃w:Str,d0 xs k=some (.str w)/\Ws.fG w=true:=by
 obtain⟨j,rfl⟩:∃j:Nat,k=(j:Int):=⟨k.toNat,⋯⟩
 have a:j<⇑xs:=⋯
 let⟨w,e,b⟩:=h xs[j] (getElem_mem a);exact⟨w,L2.jK (by simp_all),b⟩
def Cu{xs:N2}{lo hi:Nu}{v:V}(h:v∈gh xs lo hi):v∈xs:=List.mem_of_mem_drop (mem_of_mem_take h)
def Zc{a:L8}{j:Nat}(h:j<⇑a):d0 (a.map V.str) ((j:Nat):Int)=some (.str (a.getD j ⟨#[]⟩)):=by
 refine L2.jK ?_
 simp_all
structure nX(nl ml:Addr)(mas:L7)(L nm:L8)(Ms:List L8)(H:Hp):Prop where
 en:H nl=some (.lst (nm.map V.str))
 em:H ml=some (.lst (mas.map V.ref))
 am:ny H mas Ms
 il:pO L Ms
 ml:Ms.length=⇑nm
 sR:⇑nm<=20
 l8:⇑L<=8
 w:∀x∈nm,Ws.fG x=true
 lw:∀x∈L,Ws.fG x=true
def nX.same{d c:Addr}{b:L7}{L e:L8}{Ms:List L8}{H H':Hp}(N:nX d c b L e Ms H)(s:bI H H'):nX d c b L e Ms H':=
 ⟨s _ _ N.en,s _ _ N.em,N.am.mono λa x h=>s _ _ h,N.il,N.ml,N.sR,N.l8,N.w,N.lw⟩
def nX.mv{k i:Addr}{a:L7}{L c:L8}{Ms:List L8}{H:Hp}(N:nX k i a L c Ms H){j:Nat}(g:j<⇑c):∃b,a[j]?=some b/\H b=some (.lst ((Ms.getD j []).map V.str))/\⇑(Ms.getD j [])<=8/\∀x∈Ms.getD j [],Ws.fG x=true:=by
 have e:Ms[j]?=some (Ms.getD j []):=by rw[vy,vz (by rw[N.ml];exact g)];rfl
 let⟨b,d,f⟩:=N.am.get e;have:=N.il.len (vm e);have:=N.l8;exact⟨b,d,f,⋯,λx h=>N.lw x (N.il.at' j x h)⟩
def tV(H:Hp)(bd:Addr)(b0 b1 b2 b3 b4:Int):Prop:=H bd=some (.lst [.int b0,.int b1,.int b2,.int b3,.int b4])/\1<=b0/\b0<=10^18/\1<=b1/\b1<=10^18/\1<=b2/\b2<=10^18+1/\1<=b3/\b3<=10^18/\1<=b4/\b4<=10^60
def qa{a c b2 b3 b4 i:Int}(d:1<=a/\a<=10^18)(e:1<=c/\c<=10^18)(f:0<=i)(g:i<2):∃b:Int,d0 [V.int a,V.int c,V.int b2,V.int b3,V.int b4] i=some (V.int b)/\1<=b/\b<=10^18:=by
 have:i=0\/i=1:=⋯
 rcases this with rfl | rfl
 .exact⟨a,rfl,d⟩
 .exact⟨c,rfl,e⟩
structure rF(pl:Addr)(las:L7)(ls:L4)(H:Hp):Prop where
 el:H pl=some (.lst (las.map V.ref))
 la:bL (eQ H) las ls
 l1:1<=⇑ls
def rF.same{H H':Hp}(N:rF pl las ls H)(s:bI H H'):rF pl las ls H':=⟨s _ _ N.el,N.la.mono λa x h=>s _ _ h,N.l1⟩
def Dx{H:Hp}(h:Q (.int (10^12)) H):rI my (λi j=>.int (i^j.toNat)) (.int 10) (.int 12) H Q:=⟨10,12,rfl,rfl,⟨by decide,by decide,by decide⟩,h⟩
inductive fT(vs:N2)(H:Hp)(Q:VK)(xk:XK):Prop
 | mk (nl d) (nm:L8) (gs:L5) (most):vs=[.ref nl,.ref d,.int most]->H nl=some (.lst (nm.map V.str))->H d=some (.dK (iH nm gs))->nm.Nodup->⇑nm=⇑gs->1<=⇑nm->⇑nm<=20->(∀j,j<⇑nm->1<=gs.getD j 0/\gs.getD j 0<=most)->(∀(b:Addr) (is:L6) (H':Hp),bI H H'->H' b=some (.tup ((is.map λj=>nm.getD j ⟨#[]⟩).map V.str))->is≠[]->⇑is<=5->(∀j∈is,j<⇑nm)->Q (.ref b) H')->fT vs H Q xk
noncomputable def kb(n:Int)(len t:Nat):Nat:=(((len:Int)-1-(t:Int)*(1+n%3))%(len:Int)).toNat
noncomputable def dX(n:Int)(len:Nat)(Ms:List L8)(ro:Bool):Nat->L6×L8
 | 0=>([],[])
 | t+1=>if ro=true then(if(t:Int)<1+n/3%5 then((dX n len Ms ro t).1++[kb n len t],(dX n len Ms ro t).2)else dX n len Ms ro t)
  else if Ms.getD (kb n len t) []≠[]/\((Ms.getD (kb n len t) []).filter λs=>decide (s∈(dX n len Ms ro t).2))=[]/\(dX n len Ms ro t).1.length<4 then((dX n len Ms ro t).1++[kb n len t],(dX n len Ms ro t).2++Ms.getD (kb n len t) [])else dX n len Ms ro t
section
variable{n:Int}{len:Nat}{Ms:List L8}{ro:Bool}
def Ao(h:1<=len):kb n len t<len:=by
 unfold kb;have a:=ve ((len:Int)-1-(t:Int)*(1+n%3)) (show(len:Int)≠0 by lia);have b:=vf ((len:Int)-1-(t:Int)*(1+n%3)) (show(0:Int)<(len:Int) by lia);lia
def GJ(t:Nat):dX n len Ms ro (t+1)=if ro=true then(if(t:Int)<1+n/3%5 then((dX n len Ms ro t).1++[kb n len t],(dX n len Ms ro t).2)else dX n len Ms ro t)
  else if Ms.getD (kb n len t) []≠[]/\((Ms.getD (kb n len t) []).filter λs=>decide (s∈(dX n len Ms ro t).2))=[]/\(dX n len Ms ro t).1.length<4 then((dX n len Ms ro t).1++[kb n len t],(dX n len Ms ro t).2++Ms.getD (kb n len t) [])else dX n len Ms ro t:=rfl
theorem Ac(h:1<=len):∀(t:Nat) (j:Nat),j∈(dX n len Ms ro t).1->j<len
 | 0,j,hj=>nomatch hj
 | t+1,j,hj=>by
  have a:=Ac h t j;unfold dX at hj;split at hj
  .split at hj
   .rcases vh.mp hj with z | z
    .exact a z
    .rw[vo.mp z];exact Ao h
   .exact a hj
  .split at hj
   .rcases vh.mp hj with z | z
    .exact a z
    .rw[vo.mp z];exact Ao h
   .exact a hj
theorem Dt(b:∀j,⇑(Ms.getD j [])<=8):∀t:Nat,(dX n len Ms ro t).2.length<=8*(dX n len Ms ro t).1.length
 | 0=>vb _
 | t+1=>by
  have a:=Dt b t;have c:=b (kb n len t);unfold dX;split
  .split
   .rw[vn];show(dX n len Ms ro t).2.length<=8*(_+1);lia
   .exact a
  .split
   .rw[vn,vn];show _<=8*(_+1);lia
   .exact a
theorem wk:∀t:Nat,(dX n len Ms ro t).1.length<=t/\(dX n len Ms ro t).1.length<=5
 | 0=>⟨vb _,va _⟩
 | t+1=>by
  let⟨a,b⟩:=wk t;have d:=vf (n/3) (show(0:Int)<5 by decide);unfold dX;split
  .split
   .rename_i c;rw[vn];exact⟨by show _+1<=_;lia,by show _+1<=5;lia⟩
   .lia
  .split
   .rename_i c;rw[vn];have:=c.2.2;exact⟨by show _+1<=_;lia,by show _+1<=5;lia⟩
   .lia
theorem Ds(a:ro=true):∀t:Nat,0<t->(dX n len Ms ro t).1≠[]
 | 0,h=>uf h ⋯
 | t+1,_=>by
  have b:=ve (n/3) (show(5:Int)≠0 by decide);unfold dX;rw[vd a];split
  .simp_all
  .rename_i c;exact Ds a t ⋯
theorem Dr(g:ro=false):∀t:Nat,iS Ms (dX n len Ms ro t).1/\∀s,s∈(dX n len Ms ro t).2↔∃j∈(dX n len Ms ro t).1,s∈Ms.getD j []
 | 0=>⟨⟨(λj h=>nomatch h),.nil⟩,λs=>⟨(λh=>nomatch h),λ⟨j,h,_⟩=>nomatch h⟩⟩
 | t+1=>by
  let⟨e,f⟩:=Dr g t;unfold dX;rw[vc (by rw[g];exact vF)];split
  .rename_i c;let⟨i,k,q⟩:=c;refine⟨⟨λj o=>?_,List.pairwise_append.mpr ⟨e.2,pairwise_singleton ..,λa l b m s p d=>?_⟩⟩,λs=>?_⟩
   .rcases vh.mp o with z | z
    .exact e.1 j z
    .rw[vo.mp z];exact i
   .rw[vo.mp m]at d;have:s∈(Ms.getD (kb n len t) []).filter λs=>decide (s∈(dX n len Ms ro t).2):=vP.mpr ⟨d,vG ((f s).mpr ⟨a,l,p⟩)⟩
    rw[k]at this;cases this
   simp_all
  .exact⟨e,f⟩
end
inductive gC(vs:N2)(H:Hp)(Q:VK)(xk:XK):Prop
 | mk (n nl ml mas L) (nm:L8) (Ms kd):vs=[.int n,.ref nl,.ref ml,.str kd]->nX nl ml mas L nm Ms H->1<=⇑nm->0<=n->n<=10^40->(kd = "row"\/kd = "side")->(∀(b:Addr) (H':Hp),bI H H'->H' b=some (.tup (((dX n ⇑nm Ms (decide (kd = "row")) ⇑nm).1.map λj=>nm.getD j ⟨#[]⟩).map V.str))->Q (.ref b) H')->gC vs H Q xk
inductive ig(vs:N2)(H:Hp)(Q:VK)(xk:XK):Prop
 | mk (n nl ml pl bd mas las ls) (nm:L8) (Ms:List L8) (b0 b1 b2 b3 b4):vs=[.int n,.ref nl,.ref ml,.ref pl,.ref bd]->nX nl ml mas (bF ls) nm Ms H->rF pl las ls H->tV H bd b0 b1 b2 b3 b4->0<=n->n<=10^40->(∀(a:Addr) (f:Fn) (H':Hp),bI H H'->bN H' a (cL nm f)->dS (bF ls) (Ms.map (gS (bF ls))) ⇑nm f->Q (.ref a) H')->ig vs H Q xk
def JQ(a:0<=y)(b:y<10^30+57):0<=(fi x y m).2.2/\(fi x y m).2.2<10^30+57:=by
 unfold fi;split
 .exact⟨a,b⟩
 .exact Q4 _ _
def Off(p:Addr)(H0 H:Hp):Prop:=∀c u,H0 c=some u->c≠p/\H c=some u
def Off.ex{a H H':Hp}(o:Off p a H)(x:Ex p H H'):Off p a H':=λc u h=>⟨(o c u h).1,x c u (o c u h).1 (o c u h).2⟩
def Off.same{a H:Hp}(o:Off p a H):bI a H:=λc u h=>(o c u h).2
inductive fN(vs:N2)(H:Hp)(Q:VK)(xk:XK):Prop
 | mk (p nl ml bd x y kd H0 mas L) (nm:L8) (Ms:List L8) (b0 b1 b2 b3 b4):vs=[.ref p,.int kd,.ref nl,.ref ml,.ref bd]->H p=some (.lst [.int x,.int y])->0<=y->y<10^30+57->Off p H0 H->nX nl ml mas L nm Ms H0->1<=⇑nm->tV H0 bd b0 b1 b2 b3 b4->(∀(a:Addr) (f:Fn) (H':Hp),Ex p H H'->bN H' a (cL nm f)->dS L (Ms.map (gS L)) ⇑nm f->Q (.ref a) H')->fN vs H Q xk
inductive ij(vs:N2)(H:Hp)(Q:VK)(xk:XK):Prop
 | mk (p nl ml pl bd x y H0 mas las ls) (nm:L8) (Ms:List L8) (b0 b1 b2 b3 b4):vs=[.ref p,.ref nl,.ref ml,.ref pl,.ref bd]->H p=some (.lst [.int x,.int y])->0<=y->y<10^30+57->Off p H0 H->nX nl ml mas (bF ls) nm Ms H0->rF pl las ls H0->tV H0 bd b0 b1 b2 b3 b4->(∀(a:Addr) (f:Fn) (H':Hp),Ex p H H'->bN H' a (cL nm f)->dS (bF ls) (Ms.map (gS (bF ls))) ⇑nm f->Q (.ref a) H')->ij vs H Q xk
def CO:∀p,p<3->(decide ((List.range 50).map (iL p)).Nodup&&((List.range 50).map (iL p)).all λx=>Ws.fG x)=true:=by trivial
def CP(c:p<3)(hi:i<50)(g:j<50)(e:iL p i=iL p j):i=j:=by
 have h:=CO p c;rw[Bool.and_eq_true,decide_eq_true_eq]at h;have a:((List.range 50).map (iL p))[i]?=some (iL p i):=by rw[vv,List.getElem?_range hi];rfl
 have b:((List.range 50).map (iL p))[j]?=some (iL p i):=by simp_all
 have d:=j2 h.1 a;have f:=j2 h.1 b;lia
def DW(a:p<3)(hi:i<50):Ws.fG (iL p i)=true:=by
 have h:=CO p a
 simp_all
noncomputable def mV(p m:Nat):L8:=(List.range m).map (iL p)
def C0(h:j<m):(mV p m)[j]?=some (iL p j):=by unfold mV;simp_all
def Bc:mV p (m+1)=mV p m++[iL p m]:=by unfold mV;rw[range_succ,vj];rfl
def C1(c:p<3)(j:m<=9):(mV p m).Nodup/\∀x∈mV p m,Ws.fG x=true:=by
 unfold mV;refine⟨pairwise_map.mpr (nodup_range.imp_of_mem λ{a b} d f n e=>n (CP c (by have:=v4.mp d;lia) (by have:=v4.mp f;lia) e)),λx h=>?_⟩
 .let⟨i,g,rfl⟩:=vK.mp h;have:=v4.mp g;exact DW c ⋯
noncomputable def mU(st c m k:Nat):Nat:=if k=c then k%m else st+k
noncomputable def nG(p st c m:Nat):L8:=(List.range 17).map λk=>iL p (mU st c m k)
def B3{p st c m:Nat}:⇑(nG p st c m)=17:=by unfold nG;simp_all
def B0{p st c m k:Nat}(h:k<17):(nG p st c m).getD k ⟨#[]⟩=iL p (mU st c m k):=by
 unfold nG
 simp_all
def Dq{p st c m:Nat}(f:p<3)(q:1<=m)(r:m<=st)(h:st<=9):(nG p st c m).Nodup/\∀x∈nG p st c m,Ws.fG x=true:=by
 have b:∀k,k<17->mU st c m k<50:=λk o=>by
  unfold mU;have:=Nat.mod_lt k (show 0<m by lia);split<;>lia
 unfold nG;refine⟨pairwise_map.mpr (nodup_range.imp_of_mem λ{x y} a d n e=>?_),λx a=>?_⟩
 .have a:=v4.mp a;have d:=v4.mp d;have:=CP f (b x a) (b y d) e;unfold mU at this;have j:=Nat.mod_lt x (show 0<m by lia);have l:=Nat.mod_lt y (show 0<m by lia);refine n ?_;split at this<;>split at this<;>lia
 .let⟨i,g,rfl⟩:=vK.mp a;exact DW f (b i (v4.mp g))
def Em{names:L8}{a:List Fn}{f:Fn}:bS names (a++[f])=bS names a++[(names.getD ⇑a ⟨#[]⟩,cL names f)]:=by
 unfold bS;rw[vn,vS,range_succ,vj];congr 1
 .refine map_congr_left λj b=>?_
  rw[Qx (v4.mp b)]
 .rw[v9,ya];rfl
def km(h:dS L M n f):cL (names.take n) f=cL names f:=by
 have g:∀j,j<n->(names.take n).getD j ⟨#[]⟩=names.getD j ⟨#[]⟩:=λj a=>by
  simp_all
 have b:=h.js.2;cases f with
 | row is=>exact congrArg Fm.row (map_congr_left λj a=>g j (b j a))
 | side is=>exact congrArg Fm.side (map_congr_left λj a=>g j (b j a))
 | again k j=>exact congrArg (Fm.again k) (g j (b j vq))
 | hold n=>rfl
 | ring x n=>rfl
 | rise x v n=>rfl
def Gm(h:⇑nm=⇑gs):iH (nm++[x]) (gs++[g])=iH nm gs++[(Sum.inr x,.int g)]:=by
 unfold iH;rw[List.zip_append h,vj];rfl
def Xt(h:⇑nm=⇑gs)(n:x∉nm):putK (iH nm gs) (Sum.inr x) (.int g)=iH (nm++[x]) (gs++[g]):=by
 rw[Gm h,Yi];rw[A7 h]
 simp_all
def Xs(h:⇑nm=⇑gs):⇑(iH nm gs)=⇑nm:=by
 unfold iH
 simp_all
structure mS(pl nl ml d pp:Addr)(las pas mas:L7)(ls:L4)(names:L8)(fs:List Fn)(Ms:List L8)(gs:L5)(b4:Int)(H:Hp):Prop where
 n:nX nl ml mas (bF ls) (names.take ⇑fs) Ms H
 l:rF pl las ls H
 ed:H d=some (.dK (iH (names.take ⇑fs) gs))
 ep:H pp=some (.lst (pas.map V.ref))
 pa:bL (cJ H) pas (bS names fs)
 dk:l6 (bF ls) fs (Ms.map (gS (bF ls))) gs
 gb:∀j,j<⇑fs->gs.getD j 0<=b4
 fl:⇑fs<=⇑names
def mS.same{H H':Hp}(B:mS pl nl ml d pp las pas mas ls names fs Ms gs b4 H)(s:bI H H'):mS pl nl ml d pp las pas mas ls names fs Ms gs b4 H':=
 ⟨B.n.same s,B.l.same s,s _ _ B.ed,s _ _ B.ep,B.pa.mono λa x h=>cJ.same s h,B.dk,B.gb,B.fl⟩
structure oS(pl nl ml pp bd:Addr)(mas:L7):Prop where
 ln:pl≠nl
 lm:pl≠ml
 lp:pl≠pp
 nm:nl≠ml
 np:nl≠pp
 mp:ml≠pp
 bn:bd≠nl
 bm:bd≠ml
 bp:bd≠pp
 ma:∀a∈mas,a≠nl/\a≠ml/\a≠pp
def oS.add(S:oS pl nl ml pp bd mas)(h:l≠nl/\l≠ml/\l≠pp):oS pl nl ml pp bd (mas++[l]):=
 ⟨S.ln,S.lm,S.lp,S.nm,S.np,S.mp,S.bn,S.bm,S.bp,λa b=>by
  rcases vh.mp b with z | z
  .exact S.ma a z
  .rw[vo.mp z];exact h⟩
def mS.add{pl o n d p K fa l c:Addr}{r m i:L7}{ls:L4}{names:L8}{b:List Fn}{Ms:List L8}{gs:L5}{b4 g:Int}{f:Fn}{ks:L8}{H H':Hp}(B:mS pl o n d p r m i ls names b Ms gs b4 H)(S:oS pl o n p K i)
  (W:bN H fa (cL names f)) (pre:dS (bF ls) (Ms.map (gS (bF ls))) ⇑b f) (I:mD Ms f ks) (G:fx gs f g) (P:g<=b4) (J:b4<=10^60) (fn:⇑b<⇑names) (a0:⇑b<20) (nw:∀x∈names,Ws.fG x=true)
  (k:∀x u,x≠n->x≠o->x≠p->x≠d->H x=some u->H' x=some u) (t:H' n=some (.lst ((i++[l]).map V.ref))) (O:H' l=some (.lst (ks.map V.str))) (v:H' o=some (.lst ((names.take (⇑b+1)).map V.str)))
  (w:H' p=some (.lst ((m++[c]).map V.ref))) (L:H' c=some (.tup [.str (names.getD ⇑b ⟨#[]⟩),.ref fa])) (M:H' d=some (.dK (iH (names.take (⇑b+1)) (gs++[g])))) :
  mS pl o n d p r (m++[c]) (i++[l]) ls names (b++[f]) (Ms++[ks]) (gs++[g]) b4 H':=by
 have N:=B.n;have E:∀c q,H c=some (.tup q)->H' c=some (.tup q):=λc q h=>k c _ (Je h N.em λz=>by cases z) (Je h N.en λz=>by cases z) (Je h B.ep λz=>by cases z) (Je h B.ed λz=>by cases z) h
 have F:∀{c q},c≠n->c≠o->c≠p->H c=some (.lst q)->H' c=some (.lst q):=λR T U h=>k _ _ R T U (Je h B.ed λz=>by cases z) h
 have s:⇑(b++[f])=⇑b+1:=by rw[vn];rfl
 have D:=B.dk;have Z:=I.D8 N.il pre;have Q:=ID pre G λj A=>(D.g j A).1
 have gl:=D.gl;refine⟨⟨?_,t,?_,?_,?_,?_,N.l8,λx Y=>nw x (mem_of_mem_take Y),N.lw⟩,⟨F S.lm S.ln S.lp B.l.el,B.l.la.mono λa x h=>E _ _ h,B.l.l1⟩,?_,w,?_,?_,λj A=>?_,⋯⟩
 .rw[s];exact v
 .refine bL.snoc ?_ O;exact bL.mi N.am λa y ks h=>F (S.ma a y).2.1 (S.ma a y).1 (S.ma a y).2.2 h
 .intro C X;rcases vh.mp X with z | z
  .exact N.il C z
  .rw[vo.mp z];exact Z
 .have:=N.ml;rw[vi]at this|-;rw[vn,s];show _+1=_;lia
 .rw[vi];lia
 .rw[s];exact M
 .rw[Em];exact bL.snoc (B.pa.mono λa x h=>cJ.keep E h) ⟨fa,L,bN.keep E W⟩
 .rw[vj];exact D.uX pre I.n G ⟨Q,⋯⟩
 .rw[s]at A;by_cases z:j<⇑b
  .rw[Qx ⋯];exact B.gb j z
  .have e:j=⇑gs:=⋯
   subst e;rw[ya];exact P
inductive eZ(K:cg)(vs:N2)(H:Hp)(Q:VK)(xk:XK):Prop
 | mk (a bd) (ns:L5) (many b0 b1 b2 b3 b4):vs=[.ref a,.int (many:Nat),.ref bd]->bK K H a (ns.map V.int)->⇑ns<=63->2<=many->many<=16->tV H bd b0 b1 b2 b3 b4->(∀(r b pl pp:Addr) (las pas:L7) (names:L8) (ls:L4) (fs:List Fn) (M:L1) (gs:L5) (H':Hp),bI H H'->H' r=some (.tup [.ref b,.int (gs.getD (⇑fs-1) 0)])->cx H' b pl pp las pas ls (bS names fs)->l6 (bF ls) fs M gs->Sn ls (bS names fs) gs M->⇑fs=many+1->⇑names=17->names.Nodup->(∀x∈names,Ws.fG x=true)->1<=⇑ls->⇑ls<=8->(bF ls).Nodup->(∀x∈bF ls,Ws.fG x=true)->pl≠pp->(∀j,j<⇑fs->gs.getD j 0<=b4)->Q (.ref r) H')->eZ K vs H Q xk
def mS.book{H:Hp}(B:mS pl nl ml d pp las pas mas ls names fs Ms gs b4 H)(a:H b=some (.tup [.ref pl,.ref pp])):cx H b pl pp las pas ls (bS names fs):=⟨a,B.l.el,B.l.la,B.ep,B.pa⟩
end Rm
namespace L2
open PySem PySem.Spec PySem.W PyProof.Rows
noncomputable def rN(p:Str×V):Key×V:=(Sum.inr p.1,p.2)
theorem nJ:∀{as:L7} {kvs:List (Str×V)},⇑as=⇑kvs->(∀(i:Nat) (a:Addr) (q:Str×V),as[i]?=some a->kvs[i]?=some q->∃t u,RelV q.2 u/\IsTup h a #[.str q.1 t,u])->
  ∃ps:List (Key×Value),KV (kvs.map rN) ps/\⇑ps=⇑kvs/\∀(j:Nat) (kv:Key×Value),ps[j]?=some kv->∃a key,as[j]?=some a/\IsTup h a #[key,kv.2]/\fB kv.1 key=true
 | [],[],_,_=>⟨[],.nil,rfl,λj kv e=>by simp at e⟩
 | [],_::_,l,_=>by simp at l
 | _::_,[],l,_=>by simp at l
 | a::as,q::kvs,l,f=>by
  let⟨ps,o,p,r⟩:=nJ (as:=as) (kvs:=kvs) #v[l] λi a q m n=>f (i+1) a q #v[m] #v[n]
  let⟨t,u,v,e⟩:=f 0 a q rfl rfl;refine⟨(Sum.inr q.1,u)::ps,.cons ⟨rfl,v⟩ o,by rw[vQ,p,vQ],λj kv c=>?_⟩;cases j with
  | zero=>simp at c;subst c;exact⟨a,_,rfl,e,xi _ _⟩
  | succ j=>let⟨b,s,d,g,k⟩:=r j kv #v[c];exact⟨b,s,#v[d],g,k⟩
section
variable{X:Cx}
def EN(G:X.calm=true):cV X (.type "dict") (λxs H Q=>∃(p:Addr) (as:L7) (kvs:List (Str×V)),xs=[.ref p]/\H p=some (.lst (as.map V.ref))/\⇑as=⇑kvs/\
  (∀(i:Nat) (a:Addr) (q:Str×V),as[i]?=some a->kvs[i]?=some q->H a=some (.tup [.str q.1,q.2]))/\∀d,H d=none->Q (.ref d) (upd H d (.dK (cC [] (kvs.map rN))))):=by
 intro M s σ H xs us Q I r h;let⟨p,as,kvs,rfl,Z,B,ht,q⟩:=h;let⟨u,rfl,ru⟩:=vals1 r;cases ru;let⟨z,D,n,rv,lv,e⟩:=I.lB Z;have W:=YO rv;subst W;rw[vt]at z;have J:p<s.heap.objs.size:=vI e;let⟨ps,kp,N,pt⟩:=nJ (h:=s.heap) B λi a q S U=>by
  let⟨_,D,r',t'⟩:=I.cw a _ (ht i a q S U);cases r' with
  | cons ra rr=>
   cases rr with
   | cons rb rr=>
    cases rr;let⟨t1,rfl⟩:=ra;exact⟨t1,_,rb,t'⟩
 refine callType_codes (Q₁:=λt g=>t = .ref s.heap.objs.size/\g={s with heap:=s.heap.push {cls:=.type "dict",data:=.dict #[]}}) PySem.F.kt_called_dict (PySem.F.kt_typeCall_dict_1 (.ref p)) PySem.F.entry_dict_init (kt_code_dict_new (.ref p) ⟨rfl,rfl⟩) ?_;rintro t g ⟨rfl,rfl⟩;have c:(s.heap.push {cls:=.type "dict",data:=.dict #[]}).DictOf (bR X.prog X.w) s.heap.objs.size []:=Heap.DictOf.new s.heap;have v:∀b o,s.heap.get? b=some o->(s.heap.push {cls:=.type "dict",data:=.dict #[]}).get? b=some o:=λb o e=>vJ _ e
 generalize s.heap.push {cls:=.type "dict",data:=.dict #[]}=h0 at c v;refine⟨c.typeIs (s:={s with heap:=h0}),PySem.F.args_dict_init_2 _ _,?_⟩;unfold Builtin.«dict.__init__»;refine uh ?_;unfold Builtin.Dict.selfAndRest;refine uh (wpAny_notOrdered_dict (c.typeIs (s:={s with heap:=h0})) ?_);show wpAny (model X.prog X.w) _ (pure (s.heap.objs.size,[Value.ref p])) _ _ _;refine ug ?_;show wpAny (model X.prog X.w) _ (Builtin.Dict.updateFrom "dict.__init__" s.heap.objs.size (.ref p) [] .none) _ _ _;unfold Builtin.Dict.updateFrom;refine uh (wpAny_typeOf (T:="list") ⟨_,v _ _ e,rfl⟩ ?_);rw[vd nofun];refine uh (nH (s:={s with heap:=h0}) (v _ _ e) rfl rfl rfl (I.ok.hd G) λm tk K=>?_);rw[vd (show(none:Nv).isNone=true from rfl)];have f:∀b o,s.heap.get? b=some o->m.get? b=some o:=λb o e=>K b o (v b o e)
 have k:m.DictOf (bR X.prog X.w) s.heap.objs.size []:=c.keep K;have w:s.heap.objs.size<m.objs.size:=by let⟨_,_,_,hg,_⟩:=k;exact vI hg
 have lp:p<m.objs.size:=vZ J w;refine uh (wpAny_rule ?_);refine uh (wpAny_pyIter_list (l:=p) (items:=(as.map Value.ref).toArray) ⟨_,f _ _ e,rfl,n,rfl⟩ ?_);refine ug ⟨plainId_quiet ZM _,?_⟩;refine vr (knd:=bR X.prog X.w) (A:=X.A.in1) (d:=s.heap.objs.size) (it:=m.objs.size) (l:=p) (items:=as.map Value.ref) (res:=.none) (I.ok.hd G) (vE w) (vO J) (vO lp) ps 0 [] _
  ⟨_,Heap.get?_push_size _ rfl,rfl,rfl⟩ ⟨_,vJ _ (f _ _ e),rfl,n,rfl⟩ (by rw[vt,B,N,Nat.zero_add]) (λj kv Y=>?_) (k.push _) (by rw[length_nil,N,<-B,Nat.zero_add];exact z) λh2 E k2 x=>?_
 .let⟨a,ky,O,⟨o,F,P⟩,R⟩:=pt j kv Y;have L:a<s.heap.objs.size:=vI F;exact⟨a,ky,by rw[Nat.zero_add,vv,O];rfl,⟨o,vJ _ (f _ _ F),P⟩,R,vE L,vE (vZ L w)⟩
 .refine⟨rfl,.ref s.heap.objs.size,upd H s.heap.objs.size (.dK (cC [] (kvs.map rN))),I.laid (t':=E) (λb o y=>k2 b o (vE (vI y)) (vE (vZ (vI y) w)) (vJ _ (f _ _ y))) (vb _) ?_,rfl,q _ (I.cw.fresh (vb _))⟩;have hm:=qX (kvs.map rN) [];rw[length_nil,vt]at hm;have C:(s.heap.objs.size==sysModules)=false:=by
   rw[beq_eq_false_iff_ne];exact vO I.big
  exact wM ⋯ C (kp.merge .nil) x
end
end L2
namespace Rm
open PySem PySem.Spec PyProof.Rows L2
theorem xp:∀{kvs:List (Key×V)} {acc:List (Key×V)} {i:Nat} {k:Key} {v:V},(kvs.map (·.1)).Nodup->kvs[i]?=some (k,v)->cO (cC acc kvs) k=some v
 | [],_,_,_,_,_,h=>by simp at h
 | q::r,acc,0,k,v,nd,h=>by
  have h:q=(k,v):=vL h;subst h;rw[v9,uo]at nd;have:∀(r:List (Key×V)) (acc:List (Key×V)),k∉r.map (·.1)->cO (cC acc r) k=cO acc k:=λr=>by
   induction r with
   | nil=>intro acc j;rfl
   | cons p r ih=>
    intro acc h;rw[v9,mem_cons,not_or]at h;show cO (cC (putK acc p.1 p.2) r) k=_;rw[ih _ h.2,BU,vc h.1]
  show cO (cC (putK acc k v) r) k=_;rw[this r _ nd.1,BU,vd rfl]
 | q::r,acc,i+1,k,v,nd,h=>by
  rw[v9,uo]at nd;exact xp (kvs:=r) (acc:=putK acc q.1 q.2) nd.2 #v[h]
def fx.tk{gs:L5}{f:Fn}{g:Int}{i:Nat}(h:fx gs f g)(c:∀j∈f.js,j<i):fx (gs.take i) f g:=by
 have e:∀j,j<i->(gs.take i).getD j 0=gs.getD j 0:=λj a=>by simp_all
 cases f with
 | row is=>
  have h:g=(is.map λj=>gs.getD j 0).sum:=h;exact h.trans (congrArg List.sum (map_congr_left λj a=>(e j (c j a)).symm))
 | side is=>
  let⟨⟨j,a,l⟩,m⟩:=h;exact⟨⟨j,a,by rw[e j (c j a)];exact l⟩,λd b=>by rw[e d (c d b)];exact m d b⟩
 | again k j=>
  show g=k*(gs.take i).getD j 0;rw[e j (c j vq)];exact h
 | hold n=>exact h
 | ring x n=>exact h
 | rise x v n=>exact h
structure oO(H:Hp)(b pl pp:Addr)(las pas:L7)(ls:L4)(names:L8)(fs:List Fn)(M:L1)(gs:L5):Prop where
 bk:cx H b pl pp las pas ls (bS names fs)
 d:l6 (bF ls) fs M gs
 nd:names.Nodup
 fn:⇑fs<=⇑names
 rJ:⇑fs<=20
 f1:1<=⇑fs
def oO.same{H H':Hp}{b pl e:Addr}{a c:L7}{ls:L4}{names:L8}{d:List Fn}{M:L1}{gs:L5}(B:oO H b pl e a c ls names d M gs)(s:bI H H'):oO H' b pl e a c ls names d M gs:=⟨B.bk.same s,B.d,B.nd,B.fn,B.rJ,B.f1⟩
inductive gy(vs:N2)(H:Hp)(Q:VK)(xk:XK):Prop
 | mk (b pl pp las pas ls) (names:L8) (fs:List Fn) (M gs):vs=[.ref b]->oO H b pl pp las pas ls names fs M gs->(∀(d:Addr) (H':Hp),bI H H'->H' d=some (.dK (iH (names.take ⇑fs) gs))->Q (.ref d) H')->gy vs H Q xk
inductive gI(vs:N2)(H:Hp)(Q:VK)(xk:XK):Prop
 | mk (b pl pp las pas ls names) (fs:List Fn) (M) (gs:L5) (n):vs=[.ref b,.int n]->oO H b pl pp las pas ls names fs M gs->0<=n->n<=10^70->(∀(l:Addr) (xs:L5) (H':Hp),bI H H'->H' l=some (.lst (xs.map V.int))->⇑xs<=30->(∀x∈xs,1<=x/\x<=gs.getD (⇑fs-1) 0)->Q (.ref l) H')->gI vs H Q xk
def oO.forms{H:Hp}(B:oO H b pl pp las pas ls names fs M gs):∃g:Nat->Addr,∀(i:Nat) (f:Fn),fs[i]?=some f->(∀a,pas[i]?=some a->H a=some (.tup [.str (names.getD i ⟨#[]⟩),.ref (g i)]))/\bN H (g i) (cL names f):=by
 have:∀i:Nat,∃c:Addr,∀f:Fn,fs[i]?=some f->(∀a,pas[i]?=some a->H a=some (.tup [.str (names.getD i ⟨#[]⟩),.ref c]))/\bN H c (cL names f):=λi=>by
  cases e:fs[i]? with
  | none=>exact⟨b,λf h=>by cases h⟩
  | some f=>
   let⟨a,k,c,d,j⟩:=B.bk.pa.get (BF (names:=names) e)
   simp_all
 exact Classical.axiomOfChoice this
noncomputable def rf(names:L8)(g:Nat->Addr)(n:Nat):List (Str×V):=(List.range n).map λi=>(names.getD i ⟨#[]⟩,.ref (g i))
def CV{g:Nat->Addr}(h:i<n):(rf names g n)[i]?=some (names.getD i ⟨#[]⟩,.ref (g i)):=by
 unfold rf;rw[vv,List.getElem?_range h];rfl
def Ir{g:Nat->Addr}(c:names.Nodup)(f:n<=⇑names)(h:j<n):cO (cC [] ((rf names g n).map rN)) (Sum.inr (names.getD j ⟨#[]⟩))=some (.ref (g j)):=by
 refine xp (i:=j) ?_ (by rw[vv,CV h];rfl);rw[v6];unfold rf;rw[v6];refine pairwise_map.mpr (nodup_range.imp_of_mem λ{x y} a b d e=>d ?_);have a:=v4.mp a;have b:=v4.mp b;exact getD_inj c ⋯ ⋯ (Sum.inr.inj e)
noncomputable def sY(f:Fn):Bool:=match f with
 | .row _=>true
 | .side _=>true
 | .again _ _=>true
 | _=>false
noncomputable def oI:Fn->Str
 | .hold _=>"hold"
 | .ring _ _=>"ring"
 | .rise _ _ _=>"raise"
 | .row _=>"row"
 | .side _=>"side"
 | .again _ _=>"again"
def LO(f:Fn):(if false=true then !mN (.str (oI f)) [.str "row",.str "side",.str "again"]else mN (.str (oI f)) [.str "row",.str "side",.str "again"])=sY f:=by
 have e:=ym (oI f) ["row","side","again"];refine Eq.trans e ?_;cases f
 .exact(by trivial:decide (("hold" : Str)∈[("row" : Str),"side","again"])=false)
 .exact(by trivial:decide (("ring" : Str)∈[("row" : Str),"side","again"])=false)
 .exact(by trivial:decide (("raise" : Str)∈[("row" : Str),"side","again"])=false)
 .exact(by trivial:decide (("row" : Str)∈[("row" : Str),"side","again"])=true)
 .exact(by trivial:decide (("side" : Str)∈[("row" : Str),"side","again"])=true)
 .exact(by trivial:decide (("again" : Str)∈[("row" : Str),"side","again"])=true)
def FO{H:Hp}{a:Addr}{names:L8}{f:Fn}(h:bN H a (cL names f)):∃xs,H a=some (.tup xs)/\d0 xs 0=some (.str (oI f)):=by
 cases f with
 | hold n=>exact⟨_,h,rfl⟩
 | ring x n=>exact⟨_,h,rfl⟩
 | rise x v n=>exact⟨_,h,rfl⟩
 | row is=>let⟨b,c,d⟩:=h;exact⟨_,c,rfl⟩
 | side is=>let⟨b,c,d⟩:=h;exact⟨_,c,rfl⟩
 | again k j=>exact⟨_,h,rfl⟩
def LI{H:Hp}{Q:VK}(h:Q (.int (10^36)) H):rI my (λi j=>.int (i^j.toNat)) (.int 10) (.int 36) H Q:=⟨10,36,rfl,rfl,⟨by decide,by decide,by decide⟩,h⟩
theorem Cm{g:Nat->Int}:∀{is:L6} {t:Nat} {j:Nat},(∀i∈is,0<=g i)->is[t]?=some j->0<=((is.take t).map g).sum/\((is.take t).map g).sum+g j<=(is.map g).sum
 | [],_,_,_,h=>by simp at h
 | i::r,0,j,nn,h=>by
  have h:i=j:=vL h;subst h;refine⟨vA _,?_⟩;show 0+g i<=g i+(r.map g).sum;have:∀l:L6,(∀i∈l,0<=g i)->0<=(l.map g).sum:=λl=>by
   induction l with
   | nil=>exact λq=>vA _
   | cons a l c=>
    intro h;rw[v9,uz];have:=h a vq;have:=c λi b=>h i (vp _ b)
    lia
  have:=this r λi b=>nn i (vp _ b)
  lia
 | i::r,t+1,j,nn,h=>by
  have c:=Cm (is:=r) (t:=t) (j:=j) (λi b=>nn i (vp _ b)) #v[h];have:=nn i vq;rw[List.take_succ_cons,v9,uz,v9,uz];lia
def l6.uZ{ls:L4}{names:L8}{c:List Fn}{M:L1}{gs:L5}(D:l6 (bF ls) c M gs)(A:⇑ls<=8)(u:∀q∈ls,0<=q.2/\q.2<=10^18)(t:∀x∈bF ls,Ws.fG x=true)
  (B:∀x∈names,Ws.fG x=true) (C:⇑c<=⇑names) (n:⇑c<=61):uM ls (bS names c):=by
 have l:∀{j:Nat},j<⇑c->Ws.fG (names.getD j ⟨#[]⟩)=true:=λh=>B _ (getD_in ⋯)
 refine⟨A,λp g=>⟨t _ (vK.mpr ⟨p,g,rfl⟩),(u p g).1,(u p g).2⟩,by rw[qN];exact n,λp g=>?_⟩;let⟨i,y⟩:=List.mem_iff_getElem?.mp g;let⟨f,s,rfl⟩:=qM y;have z:=(vx.mp s).1;have a:=(D.f i f s).1;refine⟨l z,?_⟩;cases f with
 | hold m=>exact⟨by have:=a.1;lia,a.2⟩
 | ring x m=>exact⟨a.2.2,by have:=a.1;lia,a.2.1⟩
 | rise x v m=>
  let⟨⟨j,e⟩,r,b,d,w⟩:=a;exact⟨t x (vm e),r,b,⋯,w⟩
 | row is=>
  let⟨Z,b,d⟩:=a;refine⟨by rw[vt];exact b,λx o=>?_⟩;let⟨j,e,rfl⟩:=vK.mp o;exact l (by have:=d j e;lia)
 | side is=>
  let⟨Z,b,d,Z⟩:=a;refine⟨by rw[vt];exact b,λx o=>?_⟩;let⟨j,e,rfl⟩:=vK.mp o;exact l (by have:=d j e;lia)
 | again k j=>
  let⟨r,b,d⟩:=a;exact⟨⋯,b,l ⋯⟩
section
variable{ls:L4}{ps qs:N1}{C:Nat->Nat->Prop}{g:Nat->Nat}{gs gs':L5}{hs hs':L1}
def Xb(S:nY ls ps gs hs)(m:nY ls qs gs' hs')(R:oN ps qs C g):∀i k,C i k->gs'.getD k 0=gs.getD i 0:=by
 intro i
 induction i using Nat.strongRecOn with
 | ind i ih=>
  intro k e;let⟨o,p⟩:=R.lt i k e;have c:ps[i]?=some ps[i]:=vz o;have d:qs[k]?=some qs[k]:=vz p;let⟨t,a,f⟩:=R.f i k _ _ e c d;have n:(bY qs qs[k].2).map (λj=>gs'.getD j 0)=(bY ps ps[i].2).map λj=>gs.getD j 0:=by
   rw[a,v6];exact map_congr_left λj h=>ih j (f j h).1 (g j) (f j h).2
  let⟨q,s⟩:=S.ln i _ c;let⟨r,b⟩:=m.ln k _ d;let⟨v,l⟩:=CY q;rw[<-s v l];exact(b v (by rw[n];exact((kI t).2 v).mp l)).symm
noncomputable def oy(g:Nat->Nat)(q:Pc):Pc:=(g q.1,q.2)
def Fp{is:L6}(h:∀j∈is,gs'.getD (g j) 0=gs.getD j 0):∀b,cu gs' (is.map g) b=(cu gs is b).map (oy g):=by
 induction is with
 | nil=>exact λq=>rfl
 | cons j r ih=>
  intro b;rw[v9,cu,cu,h j vq,ih (λj a=>h j (vp _ a))];rfl
def HK{p q:Fm}{is:L6}(a:hU (λZ Z=>True) p q)(h:∀j∈is,gs'.getD (g j) 0=gs.getD j 0):dt gs' q (is.map g)=(dt gs p is).map (oy g):=by
 cases p with
 | row xs=>
  let⟨b,rfl,Z⟩:=a;exact Fp h 0
 | side xs=>
  let⟨b,rfl,Z⟩:=a;show(is.map g).map _=(is.map _).map _;rw[v6,v6];rfl
 | again m x=>
  let⟨y,rfl,Z⟩:=a;cases is with
  | nil=>rfl
  | cons j r=>
   show(g j,1,0)::(if 1<m then[(g j,m-1,gs'.getD (g j) 0)]else[])=((j,1,0)::(if 1<m then[(j,m-1,gs.getD j 0)]else[])).map (oy g);rw[h j vq,v9];split<;>rfl
 | hold n=>
  have:q = .hold n:=a;subst this;show(is.map g).map _=(is.map _).map _;rw[v6,v6];rfl
 | ring x n=>
  have:q = .ring x n:=a;subst this;show(is.map g).map _=(is.map _).map _;rw[v6,v6];rfl
 | rise x v n=>
  have:q = .rise x v n:=a;subst this;show(is.map g).map _=(is.map _).map _;rw[v6,v6];rfl
noncomputable def uE(g:Nat->Nat)(x:Nat×Int):Nat×Int:=(g x.1,x.2)
theorem CT{t:Int}:∀{l:List Pc},(∀q∈l,gs'.getD (g q.1) 0=gs.getD q.1 0)->du gs' t (l.map (oy g))=(du gs t l).map (uE g)
 | [],_=>rfl
 | q::r,h=>by
  have a:=h q vq;have b:=CT (t:=t) (l:=r) λy e=>h y (vp _ e)
  have d:ov gs' t (oy g q)=ov gs t q:=by
   unfold ov oy;dsimp only;rw[a]
  have c:cm gs' t (oy g q)=(cm gs t q).map λy=>(g y.1,y.2):=by
   unfold cm;rw[d];unfold oy;dsimp only;rw[a];split<;>rfl
  unfold du cU at b|-;rw[v9,filterMap_cons,c,filterMap_cons];cases hp:cm gs t q with
  | none=>exact b
  | some y=>
   have f:y.1=q.1:=ZN hp;show((g y.1,y.2)::_).flatMap (df gs')=((y::_).flatMap (df gs)).map (uE g);rw[flatMap_cons,flatMap_cons,vj,b];congr 1;unfold df;dsimp only;rw[f,a,vj];congr 1
   .split<;>rfl
   .split<;>rfl
def FJ(N:Sn ls ps gs hs)(w:Sn ls qs gs' hs')(R:oN ps qs C g):∀i k,C i k->∀t,∃zs:List ((Nat×Nat)×Int),reach ps gs i t=zs.map (λz=>(z.1.1,z.2))/\reach qs gs' k t=zs.map (λz=>(z.1.2,z.2))/\∀z∈zs,C z.1.1 z.1.2:=by
 have n:=Xb N.s w.s R;intro i
 induction i using Nat.strongRecOn with
 | ind i ih=>
  intro k d t;let⟨K,L⟩:=R.lt i k d;have s:ps[i]?=some ps[i]:=vz K;have A:qs[k]?=some qs[k]:=vz L;let⟨Q,p,u⟩:=R.f i k _ _ d s A;have a:bZ qs gs' k=(bZ ps gs i).map (oy g):=by
   unfold bZ;rw[s,A];show dt gs' qs[k].2 (bY qs qs[k].2)=_;rw[p];exact HK Q λj M=>n j (g j) (u j M).2
  have m:∀q∈bZ ps gs i,q.1∈bY ps ps[i].2:=λq b=>by
   unfold bZ at b;rw[s]at b;exact kJ b
  have H:du gs' t (bZ qs gs' k)=(du gs t (bZ ps gs i)).map (uE g):=by
   rw[a];exact CT λq b=>n _ _ (u _ (m q b)).2
  by_cases c:gs.getD i 0<=t\/bZ ps gs i=[]
  .have o:gs'.getD k 0<=t\/bZ qs gs' k=[]:=by
    rw[n i k d,a]
    simp_all
   rw[j4 c,j4 o];exact⟨[((i,k),t)],rfl,rfl,λz f=>by rw[vo.mp f];exact d⟩
  .have o:¬(gs'.getD k 0<=t\/bZ qs gs' k=[]):=by
    rw[n i k d,a]
    simp_all
   rw[Jv N.s.w c,Jv w.s.w o,H];have v:∀l:L3,(∀x∈l,x.1<i/\C x.1 (g x.1))->∃zs:List ((Nat×Nat)×Int),(l.flatMap λx=>reach ps gs x.1 x.2)=zs.map (λz=>(z.1.1,z.2))/\((l.map (uE g)).flatMap λx=>reach qs gs' x.1 x.2)=zs.map (λz=>(z.1.2,z.2))/\∀z∈zs,C z.1.1 z.1.2:=λl=>by
    induction l with
    | nil=>exact λZ=>⟨[],rfl,rfl,λz f=>nomatch f⟩
    | cons x r ihl=>
     intro h;let⟨I,J⟩:=h x vq;let⟨S,B,U,D⟩:=ih x.1 I (g x.1) J x.2;let⟨T,E,F,G⟩:=ihl λy P=>h y (vp _ P)
     refine⟨S++T,by rw[flatMap_cons,B,E,vj],?_,λz f=>(vh.mp f).elim (D z) (G z)⟩;rw[v9,flatMap_cons,F,vj];congr 1
   refine v _ λx O=>?_
   let⟨q,b,e⟩:=Xz O;rw[e];exact u _ (m q b)
def LA(N:Sn ls ps gs hs)(R:oN ps qs C g)(t:1<=⇑qs)(B:dC ls qs):∃gs' hs',Sn ls qs gs' hs'/\gs'.getD (⇑qs-1) 0=gs.getD (⇑ps-1) 0:=by
 let⟨gs',hs',o,e,j,A⟩:=Im N.s N.hl N.m R t B;have u:=Xb N.s o R;have r:∀(k:Nat) (q:Str×Fm),qs[k]?=some q->∃(i:Nat) (p:Str×Fm),ps[i]?=some p/\hU (λZ Z=>True) p.2 q.2:=λk q b=>by
  have h:=(vx.mp b).1;let⟨i,d⟩:=R.ex k h;have s:=(R.lt i k d).1;exact⟨i,_,vz s,(R.f i k _ _ d (vz s) b).1⟩
 refine⟨gs',hs',⟨o,j,A,λk h=>?_,t,N.uD,λk y x v n b=>?_,λk y x m b=>?_⟩,e⟩
 .let⟨i,d⟩:=R.ex k h;rw[u i k d];exact N.g1 i (R.lt i k d).1
 .let⟨i,p,l,a⟩:=r k _ b;have D:=a.fR.mpr rfl;exact N.sU i p.1 x v n (by rw[l];exact congrArg some (Prod.ext rfl D))
 .let⟨i,p,l,a⟩:=r k _ b;let⟨z,f⟩:=p;cases f with
  | again m' x'=>
   let⟨E,c,Z⟩:=a;cases c;exact N.uV i z x' _ l
  | row xs=>let⟨Z,c,Z⟩:=a;cases c
  | side xs=>let⟨Z,c,Z⟩:=a;cases c
  | hold n=>exact uf (show Fm.again m x = .hold n from a) (λz=>nomatch z)
  | ring w n=>exact uf (show Fm.again m x = .ring w n from a) (λz=>nomatch z)
  | rise w v n=>exact uf (show Fm.again m x = .rise w v n from a) (λz=>nomatch z)
def GG(N:Sn ls ps gs hs)(f:Sn ls qs gs' hs')(R:oN ps qs C g){E F:L0}(s:⇑E=⇑ps)(u:⇑F=⇑qs)(w:cP ls ps E)(A:cP ls qs F)(t:Int) :
  cH ls qs gs' F t=cH ls ps gs E t/\lY qs gs' t=lY ps gs t:=by
 have o:=Xb N.s f.s R;have CE:=Ik R s u w A;let⟨H,i,j,k⟩:=FJ N f R _ _ R.top t;unfold cH lY;rw[i,j];clear i j;generalize ls.map (·.2)=h
 induction H generalizing h with
 | nil=>exact⟨rfl,rfl⟩
 | cons z r l=>
  have b:=k z vq;have l:=l λy G=>k y (vp _ G)
  let⟨B,D⟩:=R.lt _ _ b;have c:ps[z.1.1]?=some ps[z.1.1]:=vz B;have d:qs[z.1.2]?=some qs[z.1.2]:=vz D;let⟨a,Z⟩:=R.f _ _ _ _ b c d;have I:cS ls qs gs' F h (z.1.2,z.2)=cS ls ps gs E h (z.1.1,z.2):=by
   unfold cS;dsimp only;rw[o _ _ b,CE _ _ b,c,d];split
   .rfl
   .generalize ps[z.1.1]=p at a;generalize qs[z.1.2]=q at a;let⟨x,p⟩:=p;let⟨y,q⟩:=q;dsimp only at a|-;cases p with
    | row xs=>let⟨e,rfl,Z⟩:=a;rfl
    | side xs=>let⟨e,rfl,Z⟩:=a;rfl
    | again m x=>let⟨y,rfl,Z⟩:=a;rfl
    | hold n=>have:q = .hold n:=a;subst this;rfl
    | ring x n=>have:q = .ring x n:=a;subst this;rfl
    | rise x v n=>have:q = .rise x v n:=a;subst this;rfl
  have J:mq qs (z.1.2,z.2)=mq ps (z.1.1,z.2):=by
   unfold mq;dsimp only;rw[c,d];generalize ps[z.1.1]=p at a;generalize qs[z.1.2]=q at a;let⟨x,p⟩:=p;let⟨y,q⟩:=q;dsimp only at a|-;cases p with
   | row xs=>let⟨e,rfl,Z⟩:=a;rfl
   | side xs=>let⟨e,rfl,Z⟩:=a;rfl
   | again m x=>let⟨y,rfl,Z⟩:=a;rfl
   | hold n=>have:q = .hold n:=a;subst this;rfl
   | ring x n=>have:q = .ring x n:=a;subst this;rfl
   | rise x v n=>have:q = .rise x v n:=a;subst this;rfl
  simp_all
end
end Rm
namespace L2
open PySem PySem.Spec PyProof.Rows
def CB{K:cg}{n i j k l:Nat}(hi:i<n)(C:j<n)(D:k<n)(E:l<n):fY n (mM K 4 (dB (bX i) (dB (bX j) (dB (bX k) (dB (bX l) mL))))):=λx G H Q q=>by
 let⟨a,B,d,f,g,v,r,h,z,w,o,c,b,p,A,y,s,t,q⟩:=q;refine⟨a,B,d,f,g,v,r,h,z,w,o,c,b,p,A,y,s,t,λm u F e=>?_,q⟩;rw[List.getElem?_set_ne ⋯,List.getElem?_set_ne ⋯,List.getElem?_set_ne ⋯,List.getElem?_set_ne ⋯];exact e
open PySem PySem.Spec PySem.W PyProof.Rows
noncomputable abbrev KO:=Option Int
noncomputable def ox:KO->Value->Bool
 | some k,v=>Value.isInt k v
 | none,.none=>true
 | none,_=>false
def qp:∀{k:KO} {v:Value},ox k v=true->(∃i t,k=some i/\v=Value.int i t)\/(k=none/\v=Value.none)
 | some i,v,h=>by
  let⟨t,e⟩:=Value.isInt_shape (k:=i) (v:=v) h;exact .inl ⟨i,t,rfl,e⟩
 | none,v,h=>by
  cases v<;>first | exact .inr ⟨rfl,rfl⟩ | cases h
noncomputable def Mh:KO->Int
 | some k=>hashInt k
 | none=>4238894112
def FQ{P:Program}{w:World}{A:Around}{E:Nz}{s:Shared}{Q:Int->Shared->Prop}(h:Q 4238894112 {s with toks:=s.toks+1}):wpAny (model P w) A (pyHash .none) Q E s:=by
 have T:s.TypeIs .none "NoneType":=rfl;have a:[Value.none].any Value.onHeap=false:=rfl;unfold pyHash;refine uh ?_;rw[cRoomFor,vc (by rw[a];exact vF)];refine ug ?_;refine uh (wpAny_specialOf T F.slot_NoneType_hash.lookup ?_);show wpAny _ _ (if(some (Value.builtin "NoneType.__hash__")==some Value.none)=true then _ else _) Q E s;rw[vc (by rw[beq_builtin_none];exact vF)];refine uh (wpAny_specialOf T F.slot_NoneType_hash.lookup ?_);refine uh (wpAny_callSpecialIfBoundUnlessNone?_slot T F.slot_NoneType_hash (wpAny_call_entry F.slot_NoneType_hash T F.entry_NoneType_hash ?_ (F.args_NoneType_hash_1 _)));show wpAny _ _ (retInt 4238894112) _ _ s;refine wpAny_ret_mkInt ?_;show wpAny _ _ (if(decide (-(2:Int)^63<=4238894112)&&decide ((4238894112:Int)<2^63))=true then _ else _) Q E _;rw[vd nofun];exact ug h
noncomputable def fK(P:Program)(w:World):KeyKind P w KO where
 is:=ox
 hash:=Mh
 inj:=λv a b ha hb=>by
  rcases qp ha with⟨i,t,rfl,rfl⟩ | ⟨rfl,rfl⟩
  .rcases qp hb with⟨j,u,rfl,e⟩ | ⟨rfl,e⟩
   .lia
   .exact nomatch e
  .rcases qp hb with⟨j,u,rfl,e⟩ | ⟨rfl,e⟩
   .exact nomatch e
   .rfl
 byValue:=λk v h=>by
  rcases qp h with⟨i,t,rfl,rfl⟩ | ⟨rfl,rfl⟩<;>rfl
 pyHash:=λhv h=>by
  rcases qp hv with⟨i,t,rfl,rfl⟩ | ⟨rfl,rfl⟩
  .exact wpAny_pyHash_int h
  .exact FQ h
 eqBool:=λhu hv h=>by
  rcases qp hu with⟨i,t,rfl,rfl⟩ | ⟨rfl,rfl⟩
  .rcases qp hv with⟨j,u,rfl,rfl⟩ | ⟨rfl,rfl⟩
   .refine wpAny_eqBool_int ?_;rw[show(i==j)=decide ((some i:KO)=some j) by
     lia]
    exact h
   .rw[vH (λz=>nomatch z)]at h;exact SeqAt.EqAt.int_none i t _ _ _ _ h
  .rcases qp hv with⟨j,u,rfl,rfl⟩ | ⟨rfl,rfl⟩
   .rw[vH (λz=>nomatch z)]at h;exact SeqAt.EqAt.none_int j u _ _ _ _ h
   .rw[vG rfl]at h;exact SeqAt.EqAt.same _ _ _ _ _ h
 «strs»:=λk x t v h=>by
  rcases qp h with⟨i,u,rfl,e⟩ | ⟨rfl,e⟩<;>exact nomatch e
noncomputable def kO:KO->V
 | some i=>.int i
 | none=>.cE
def LZ{k:KO}{u:Value}(r:RelV (kO k) u):ox k u=true:=by
 cases k with
 | some i=>let⟨t,rfl⟩:=(show∃t,u=Value.int i t from r);simp[ox,Value.isInt]
 | none=>cases(show u=Value.none from r);rfl
theorem BL{P:Program}{w:World}:∀{ks:List KO} {us:L9},Vals (ks.map kO) us->ItemsAre (fK P w) ks us
 | [],_,r=>by rw[map_nil]at r;cases r;exact .nil
 | k::ks,_,r=>by
  rw[v9]at r;cases r with
  | cons h t=>exact .cons (LZ h) (BL t)
def KAt(H:Hp)(b:Addr)(ks:List KO):Prop:=H b=some (.tup (ks.map kO))
def AB{P:Program}{w:World}{H:Hp}{h:Heap}{b:Addr}{ks:List KO}(g:eN P w H h)(e:KAt H b ks):(tupleKind (fK P w)).is h ks b:=by
 let⟨q,a,r,o,c,d,n,f⟩:=(show cf P w H h b (.tup (ks.map kO))from g b _ e)
 exact⟨o,a.toArray,n,c,d,f,#v[BL r]⟩
noncomputable abbrev OE:=List KO×Addr×V
def hL(xs:List OE)(ys:List (List KO×Addr×Value)):Prop:=Paired (λ(p:OE) (q:List KO×Addr×Value)=>p.1=q.1/\p.2.1=q.2.1/\RelV p.2.2 q.2.2) xs ys
noncomputable def m3(P:Program)(w:World)(a:Addr)(xs:List OE):HO:=.ext λh=>⇑xs<=sizeLine/\(a==sysModules)=false/\∃ys:List (List KO×Addr×Value),
 hL xs ys/\(ys.map (·.1)).Nodup/\∃es ep,eR h a es ep/\es.toList=ys.map (entryOfKey (tupleKind (fK P w)))
noncomputable def lu(xs:List OE)(k:List KO):Option OE:=xs.find? λp=>decide (p.1=k)
noncomputable def gY(xs:List OE)(k:List KO):V:=((lu xs k).map (·.2.2)).getD .cE
noncomputable def hY(xs:List OE)(k:List KO)(b:Addr)(v:V):List OE:=if(lu xs k).isSome then xs.map λp=>if p.1=k then(p.1,p.2.1,v)else p else xs++[(k,b,v)]
theorem hL.length:∀{xs:List OE} {ys:List (List KO×Addr×Value)},hL xs ys->⇑xs=⇑ys
 | _,_,.nil=>rfl
 | _,_,.cons _ t=>by rw[vQ,vQ,hL.length t]
theorem hL.all{F:List KO->Addr->Prop}:∀{xs:List OE} {ys:List (List KO×Addr×Value)},hL xs ys->(∀p∈xs,F p.1 p.2.1)->∀q∈ys,F q.1 q.2.1
 | _,_,.nil,_=>λq b=>nomatch b
 | _,_,.cons (a:=x) r t,h=>λq b=>by
  rcases mem_cons.mp b with rfl | b
  .have:=h _ vq;rw[r.1,r.2.1]at this;exact this
  .exact hL.all t (λp c=>h p (vp _ c)) q b
theorem hL.rK{k:List KO}:∀{xs:List OE} {ys:List (List KO×Addr×Value)},hL xs ys->RelV (gY xs k) (((atKey ys k).map (·.2)).getD .none)/\(lu xs k).isSome=(atKey ys k).isSome
 | _,_,.nil=>⟨rfl,rfl⟩
 | _,_,.cons (a:=x) (b:=y) (l₂:=m) (l₁:=l) r t=>by
  let⟨d,f⟩:=hL.rK (k:=k) t;unfold gY lu atKey at *;by_cases e:x.1=k
  .have c:y.1=k:=r.1▸e;rw[List.find?_cons,List.find?_cons,vG e,vG c];exact⟨r.2.2,rfl⟩
  .have c:¬y.1=k:=r.1▸e;rw[List.find?_cons,List.find?_cons,vH e,vH c];exact⟨d,f⟩
theorem hL.mapped{k:List KO}{v:V}{u:Value}(c:RelV v u):∀{xs:List OE} {ys:List (List KO×Addr×Value)},hL xs ys->hL (xs.map λp=>if p.1=k then(p.1,p.2.1,v)else p) (ys.map (putAt k u))
 | _,_,.nil=>.nil
 | _,_,.cons (a:=x) (b:=y) r t=>by
  refine .cons ?_ (hL.mapped c t);unfold putAt;dsimp only;by_cases e:x.1=k
  .rw[vd e,vd (r.1▸e)];exact⟨r.1,r.2.1,c⟩
  .rw[vc e,vc (r.1▸e)];exact r
theorem hL.snoc{k:List KO}{b:Addr}{v:V}{u:Value}(a:RelV v u):∀{xs:List OE} {ys:List (List KO×Addr×Value)},hL xs ys->hL (xs++[(k,b,v)]) (ys++[(k,b,u)])
 | _,_,.nil=>.cons ⟨rfl,rfl,a⟩ .nil
 | _,_,.cons r t=>.cons r (hL.snoc a t)
def hL.put{k:List KO}{b:Addr}{v:V}{u:Value}{xs:List OE}{ys:List (List KO×Addr×Value)}(a:RelV v u)(p:hL xs ys):hL (hY xs k b v) (storedH ys k b u):=by
 unfold hY storedH;rw[(p.rK (k:=k)).2];split
 .exact p.mapped a
 .exact p.snoc a
def Bo{k:List KO}{b:Addr}{v:V}{xs:List OE}:⇑(hY xs k b v)<=⇑xs+1:=by
 unfold hY;split
 .rw[vt];lia
 .rw[vn];exact vb _
section
variable{P:Program}{w:World}{H:Hp}{h:Heap}{a:Addr}{xs:List OE}
def Di(z:⇑xs<=sizeLine)(c:(a==sysModules)=false){ys:List (List KO×Addr×Value)}(r:hL xs ys)(d:(ys.map (·.1)).Nodup){es:Array DictEntry}{ep:Nat}(b:eR h a es ep)(e:es.toList=ys.map (entryOfKey (tupleKind (fK P w)))):cf P w H h a (m3 P w a xs):=by
 refine⟨⟨z,c,ys,r,d,es,ep,b,e⟩,let ⟨o,ho,_⟩:=b;⟨o,ho⟩,?_⟩;rintro f g ⟨z,c,ys,r,d,es,ep,b,e⟩ k;exact⟨z,c,ys,r,d,es,ep,b.at' k,e⟩
end
section
variable{X:Cx}
def rx(P:Program)(w:World):TE:=λq H Q=>∀p,H p=none->Q (.ref p) (upd H p (m3 P w p []))
def Hh{b:Pos}:PE X (.Dict [] [] b) (rx X.prog X.w):=λc s d H Q I h=>
 wpAny_Dict_empty ⟨.ref s.heap.objs.size,_,I.laid (a:=s.heap.objs.size) (o:=m3 X.prog X.w s.heap.objs.size []) (t':=s.toks) (λj j q=>vJ _ q) (vb _)
  (Di (va _) (beq_eq_false_iff_ne.mpr (Ne.symm (vE I.big))) .nil nodup_nil (es:=#[]) (ep:=0) ⟨_,Heap.get?_push_size _ rfl,⟨rfl,rfl,rfl⟩,rfl⟩ rfl),rfl,h _ (I.cw.fresh (vb _))⟩
def gU(P:Program)(w:World)(H:Hp)(a:Addr)(xs:List OE):Prop:=H a=some (m3 P w a xs)/\∀p∈xs,KAt H p.2.1 p.1
def AF{d:Ny}{v:St}{H:Hp}{s:Shared}{a:Addr}{xs:List OE}(I:Inv X d v H s)(e:gU X.prog X.w H a xs):⇑xs<=sizeLine/\(a==sysModules)=false/\∃ys,hL xs ys/\s.heap.DictOfH (tupleKind (fK X.prog X.w)) a ys:=by
 let⟨e,f⟩:=e;let⟨z,l,ys,g,n,i,h,⟨o,r,j,c⟩,m⟩:=(show cf X.prog X.w H s.heap a (m3 X.prog X.w a xs)from I.cw a _ e).1;exact⟨z,l,ys,g,o,i,h,r,j,c,m,λq u=>g.all (F:=λk b=>(tupleKind (fK X.prog X.w)).is s.heap k b) (λp t=>AB I.cw (f p t)) q u,n⟩
def nS(P:Program)(w:World)(to ty:TE):TE:=λσ H Q=>to σ H λx H1=>∃a xs,x = .ref a/\gU P w H1 a xs/\ty σ H1 λy H2=>∃b k xs,y = .ref b/\gU P w H2 a xs/\KAt H2 b k/\Q (gY xs k) H2
def B8{o e:Expr}{t v:TE}{c f:Pos}(L:X.A.units+1<cLine)(K:PE X o t)(J:PE X e v)(m:M1 X o "get" c e f):PE X (.Call (.Attribute o "get" c) [e] [] f) (nS X.prog X.w t v):=by
 intro g s w H Q I h;refine wpAny_Call_method m.base m.vT m.line q7 PySem.F.slot_dict_get PySem.F.type_dict_get (cv (K g s w H _ I h) λu W z_=>?_);obtain⟨x,z,p,T,a,Z,C,d,R⟩:=z_;subst C;obtain rfl:u=Value.ref a:=T;let⟨_,_,ys,_,r⟩:=AF p d;refine⟨r.typeIs,λb q=>?_,?_⟩
 .cases q;let⟨O,_,_,E,F,_⟩:=r;exact⟨O,E,F.2.1⟩
 rw[m.trees];refine Calls.callWith_builtin rfl (Calls.evalArgs_plain (Calls.spliced_cons (cv (J g W w z _ p R) λM Y z_=>?_)));let⟨y,A,j,U,b,k,l,D,B,N,S⟩:=z_;refine Calls.spliced_nil ?_;subst D;cases(show M=Value.ref b from U);let⟨_,G,n,P,i⟩:=AF j B;refine call_meetsIn PySem.F.slot_dict_get i.typeIs PySem.F.entry_dict_get (PySem.F.args_dict_get_2 _ _) (meetsH_dict_get (tupleKind (fK X.prog X.w)) a b G) ⟨tupleKind_room_in1 L,k,n,AB j.cw N,i,⟨gY l k,A,j.tok _,?_,S⟩⟩;exact(P.rK (k:=k)).1
def Hi{P:Program}{w:World}(f:X.prog=P)(g:X.w=w){o e:Expr}{c d:TE}{a b:Pos}(j:X.A.units+1<cLine)(i:PE X o c)(h:PE X e d)(m:M1 X o "get" a e b):PE X (.Call (.Attribute o "get" a) [e] [] b) (nS P w c d):=by
 subst f g;exact B8 j i h m
def Cc{P:Program}{w:World}{d e:TE}{c:St}{H:Hp}{Q:VK}(h:d c H λx H1=>∃a xs,x = .ref a/\gU P w H1 a xs/\e c H1 λy H2=>∃b k xs,y = .ref b/\gU P w H2 a xs/\KAt H2 b k/\Q (gY xs k) H2):nS P w d e c H Q:=h
def LM(y:X.A.units+1<cLine):pW X (λo i v H Q=>∃a b k xs,o = .ref a/\i = .ref b/\gU X.prog X.w H a xs/\KAt H b k/\⇑xs<sizeLine/\Q (upd H a (m3 X.prog X.w a (hY xs k b v)))):=by
 intro g s M H o i v ov L u Q I D C E h;let⟨a,b,k,xs,rfl,rfl,d,B,l,q⟩:=h;cases D;cases C;let⟨z,w,F,j,m⟩:=AF I d;have A:⇑F<=sizeLine:=by rw[<-⇑j];exact z
 refine wpAny_setItem_heap (hsz:=A) (tupleKind_room_in1 y) (AB I.cw B) m λK c x=>⟨_,?_,q⟩
 let⟨f,J,G,e,n,p,r,Z,t⟩:=c;have:=Bo (xs:=xs) (k:=k) (b:=b) (v:=v);exact YD I (by rw[d.1];exact True.intro) x ⟨f,e⟩ (Di ⋯ w (j.put E) t ⟨f,e,n,p⟩ r)
mutual
theorem DV.mH{H:Hp}{d:Addr}{o:HO}(n:(∀ys,H d≠some (.lst ys))/\∀ys,H d≠some (.tup ys)):∀{v:V} {D:PyData},DV H v D->DV (upd H d o) v D
 | _,_,.cE=>.cE
 | _,_,.bl b=>.bl b
 | _,_,.int i=>.int i
 | _,_,.str x=>.str x
 | _,_,.lst e r=>.lst ((jh (λz=>n.1 _ (z▸e))).trans e) (gN.mH n r)
 | _,_,.tup e r=>.tup ((jh (λz=>n.2 _ (z▸e))).trans e) (gN.mH n r)
theorem gN.mH{H:Hp}{d:Addr}{o:HO}(n:(∀ys,H d≠some (.lst ys))/\∀ys,H d≠some (.tup ys)):∀{vs:N2} {ds:List PyData},gN H vs ds->gN (upd H d o) vs ds
 | _,_,.nil=>.nil
 | _,_,.cons a r=>.cons (DV.mH n a) (gN.mH n r)
end
def BJ{xs:List OE}{k a:List KO}{b:Addr}{v:V}:gY (hY xs k b v) a=if a=k then v else gY xs a:=by
 unfold hY;by_cases z:(lu xs k).isSome=true
 .rw[vd z];unfold gY lu at *;have e:∀l:List OE,((l.map λp=>if p.1=k then(p.1,p.2.1,v)else p).find? λp=>decide (p.1=a))=(l.find? λp=>decide (p.1=a)).map λp=>if p.1=k then(p.1,p.2.1,v)else p:=λl=>by
   induction l with
   | nil=>rfl
   | cons x r ih=>
    have d:(if x.1=k then(x.1,x.2.1,v)else x).1=x.1:=by split<;>rfl
    rw[v9,List.find?_cons,List.find?_cons,d,ih];by_cases c:x.1=a
    .rw[vG c];rfl
    .rw[vH c]
  rw[e,Option.map_map];by_cases c:a=k
  .subst c;rw[vd rfl];cases f:xs.find? λp=>decide (p.1=a)with
   | none=>rw[f]at z;cases z
   | some p=>
    have this:=List.find?_some f;have this:=of_decide_eq_true this
    simp_all
  .rw[vc c];cases f:xs.find? λp=>decide (p.1=a)with
   | none=>rfl
   | some p=>
    have this:=List.find?_some f;have this:=of_decide_eq_true this
    simp_all
 .rw[vc z];have g:lu xs k=none:=by simp_all
  unfold gY lu at *;rw[List.find?_append];by_cases c:a=k
  .subst c;rw[g,vd rfl,Option.none_or,List.find?_cons,vG rfl];rfl
  .rw[vc c,List.find?_cons,vH (λz=>c z.symm),List.find?_nil,Option.or_none]
def Ho{H H':Hp}{xs:List OE}{k:List KO}{b:Addr}{v:V}(h:∀p∈xs,KAt H p.2.1 p.1)(d:KAt H b k)(t:∀c ys,H c=some (.tup ys)->H' c=some (.tup ys)):∀p∈hY xs k b v,KAt H' p.2.1 p.1:=λp a=>by
 unfold hY at a;split at a
 .let⟨q,e,rfl⟩:=vK.mp a;have:=t _ _ (h q e);split<;>exact this
 .rcases vh.mp a with z | z
  .exact t _ _ (h p z)
  .rw[vo.mp z];exact t _ _ d
end
section
variable{prog:Program}{w:World}{A:Around}{E:Nz}{s:Shared}{bb:Bool}
def pX(b:Bool)(h:Heap)(a:Addr)(xs:Array Value):Prop:=∃o,h.get? a=some o/\o.cls = .type (cond b "tuple" "list")/\∃n,o.data = .seq xs n
def m5(b:Bool)(h:Heap)(a l:Addr)(i:Nat):Prop:=∃o,h.get? a=some o/\o.cls = .type (cond b "tuple_iterator" "list_iterator")/\o.data = .fields #[.ref l,.int i 0]
def m5.as{h h':Heap}{a t:Addr}{i:Nat}:m5 bb h a t i->(∀o,h.get? a=some o->h'.get? a=some o)->m5 bb h' a t i:=λ⟨o,b,r⟩ e=>⟨o,e _ b,r⟩
def E6{it t:Addr}{i:Nat}{xs:Array Value}{Q:Nz}(c:A.handled=none)(a:m5 bb s.heap it t i)(d:pX bb s.heap t xs)(f:xs[i]?=none)
  (b:∀h' e,Heap.ExtBut it s.heap h'->(∃o,h'.get? e=some o/\o.cls = .type "StopIteration")->E (.ref e) {s with heap:=h'}):wpAny (model prog w) A (Builtin.SmallTypes.nextOf (.ref it)) Q E s:=by
 cases bb
 .exact wpAny_nextOf_list_end c a d f b
 .exact E7 c a d f b
def DS{it t:Addr}{i:Nat}{xs:Array Value}{x:Value}(b:t≠it)(a:xs[i]?=some x):r6 prog w it [it,t] (λh=>m5 bb h it t i/\pX bb h t xs) (λh=>m5 bb h it t (i+1)/\pX bb h t xs) x:=by
 cases bb
 .exact HD b a
 .exact HE b a
noncomputable abbrev uJ(h:Heap)(t l:Addr):Heap:=(uI h t).push {cls:=.type "tuple_iterator",data:=.fields #[.ref l,.int 0 0]}
noncomputable abbrev uK(h:Heap)(t l:Addr):Heap:=(uJ h t l).push {cls:=.type "tuple",data:=.seq #[.ref h.objs.size,.ref (uI h t).objs.size]}
noncomputable abbrev uL(h:Heap)(t l:Addr):Heap:=(uK h t l).push {cls:=.type "tuple",data:=.seq #[.none,.none]}
noncomputable abbrev rO(h:Heap)(t l:Addr):Heap:=(uL h t l).push {cls:=.type "zip",data:=.fields #[.none,.bool false,.bool false,.ref (uJ h t l).objs.size,.ref (uK h t l).objs.size]}
def Ew(t l:Addr)(xs ys:Array Value):Meets (Builtin.«zip.__new__» ⟨[.type "zip",.ref t,.ref l],[]⟩) (λq R s=>s.heap.IsTuple t xs/\s.heap.IsTuple l ys/\R (.ok (.ret (.ref (uL s.heap t l).objs.size))) {s with heap:=rO s.heap t l}):=
 .of_wp λe w A R s h=>by
  let⟨a,g,d,f,c⟩:=s;let⟨k,m,h⟩:=h;have b:=sub_zip;have i:Heap.IsTuple (Shared.heap ⟨a,g,d,f,c⟩) t xs:=k;have j:Heap.IsTuple (Shared.heap ⟨a.push {cls:=.type "tuple_iterator",data:=.fields #[.ref t,.int 0 0]},g,d,f,c⟩) l ys:=Heap.IsTuple.push m _
  wp_walk using wpAny_pyIter_tuple i,wpAny_pyIter_tuple j
  exact⟨_,rfl,h⟩
def FH{t l:Addr}{xs ys:Array Value}{Q:Nz}(r:s.heap.IsTuple t xs)(u:s.heap.IsTuple l ys)
  (h:∀h',IsZip h' (s.heap.objs.size+4) (s.heap.objs.size+2) (s.heap.objs.size+3) .none->IsPair h' (s.heap.objs.size+2) (.ref s.heap.objs.size) (.ref (s.heap.objs.size+1))->IsPair h' (s.heap.objs.size+3) .none .none->
   h'.IsTupleIter s.heap.objs.size t 0->h'.IsTupleIter (s.heap.objs.size+1) l 0->(∀c o,s.heap.get? c=some o->h'.get? c=some o)->Q (.ref (s.heap.objs.size+4)) {s with heap:=h'}):wpAny (model prog w) A (call (.type "zip") [.ref t,.ref l]) Q E s:=by
 refine callType_new F.called_zip nofun (F.typeCall_zip_2 _ _) (F.newCall_zip_2 _ _) (λg=>F.args_object_init_3 g _ _) F.entry_zip_new (Ew t l xs ys) ⟨r,u,?_⟩;have d:(uI s.heap t).objs.size=s.heap.objs.size+1:=Heap.size_push ..;have e:(uJ s.heap t l).objs.size=s.heap.objs.size+2:=by rw[Heap.size_push,d]
 have f:(uK s.heap t l).objs.size=s.heap.objs.size+3:=by rw[Heap.size_push,e]
 have m:(uL s.heap t l).objs.size=s.heap.objs.size+4:=by rw[Heap.size_push,f]
 have a:∀{h:Heap} {o p:Obj} {c:Addr},h.get? c=some o->(h.push p).get? c=some o:=λq=>vJ _ q
 have b:(rO s.heap t l).get? (uL s.heap t l).objs.size=some _:=Heap.get?_push_size _ rfl;have k:(rO s.heap t l).get? (uK s.heap t l).objs.size=some _:=a (Heap.get?_push_size _ rfl);have j:(rO s.heap t l).get? (uJ s.heap t l).objs.size=some _:=a (a (Heap.get?_push_size _ rfl));have i:(rO s.heap t l).get? (uI s.heap t).objs.size=some _:=a (a (a (Heap.get?_push_size _ rfl)));have n:(rO s.heap t l).get? s.heap.objs.size=some _:=a (a (a (a (Heap.get?_push_size _ rfl))));show _/\_;rw[e,f,m]at b;rw[d,e]at j;rw[f]at k;rw[d]at i;rw[m];exact⟨⟨_,b,rfl⟩,h _ b j k ⟨_,n,rfl,rfl⟩ ⟨_,i,rfl,rfl⟩ λc o x=>a (a (a (a (a x))))⟩
def FI{a:Bool}{t l:Addr}{xs ys:Array Value}{Q:Nz}(b:pX a s.heap t xs)(d:pX a s.heap l ys)
  (h:∀h',IsZip h' (s.heap.objs.size+4) (s.heap.objs.size+2) (s.heap.objs.size+3) .none->IsPair h' (s.heap.objs.size+2) (.ref s.heap.objs.size) (.ref (s.heap.objs.size+1))->IsPair h' (s.heap.objs.size+3) .none .none->
   m5 a h' s.heap.objs.size t 0->m5 a h' (s.heap.objs.size+1) l 0->(∀c o,s.heap.get? c=some o->h'.get? c=some o)->Q (.ref (s.heap.objs.size+4)) {s with heap:=h'}):wpAny (model prog w) A (call (.type "zip") [.ref t,.ref l]) Q E s:=by
 cases a
 .exact call_zip_2 b d λh' e f g i j q k=>h h' e f g i j k
 .exact FH b d h
end
noncomputable def fz:Bool->cg->Hp->Addr->N2->Prop
 | true=>bV
 | false=>bK
def Inv.tx{X:Cx}{c:Ny}{e:St}{H:Hp}{s:Shared}{d:Bool}{a:Addr}{xs:N2}(I:Inv X c e H s)(h:fz d X.K H a xs):∃b:L9,Vals xs b/\pX d s.heap a b.toArray/\⇑xs<=sizeLine:=by
 cases d
 .let⟨b,r,p,z⟩:=I.list h;exact⟨b,r,p.isList,z⟩
 .exact I.tuple h
def Inv.mr{X:Cx}{b:Ny}{d:St}{H:Hp}{s:Shared}{c:Bool}{a:Addr}{xs ys:N2}(I:Inv X b d H s)(h:fz c X.K H a xs)(k:fz c X.K H a ys):xs=ys:=by
 cases c
 .exact I.fQ h k
 .exact I.iR h k
def oo(bb:Bool)(K:cg)(a b:Addr):It:=
 ⟨λi H=>∃xs x ys y,fz bb K H a xs/\xs[i]?=some x/\fz bb K H b ys/\ys[i]?=some y,
  λi H x H'=>∃T u v,x = .ref T/\H T=none/\H'=upd H T (.tup [u,v])/\(∀xs,fz bb K H a xs->xs[i]?=some u)/\∀ys,fz bb K H b ys->ys[i]?=some v,
  λi H=>∃xs,fz bb K H a xs/\⇑xs<=i⟩
def Gf{J:Bool}{P:Program}{w:World}{K:cg}{L:Nt}{k:Nat}{aa:Pos}(t l z TI TO j m:Addr)(D:ZA z TI TO j m [j,t] [m,l])(a8:t≠j)(a9:l≠m) :
  Turn P w K (.Tuple L k aa) (oo J K t l) [z,TI,TO,j,m] z (λi h=>IsZip h z TI TO .none/\IsPair h TI (.ref j) (.ref m)/\(∃a b,IsPair h TO a b)/\m5 J h j t i/\m5 J h m l i) where
 mem:=by simp
 obj:=λi h C b f=>by
  let⟨A,d,⟨a,c,g⟩,⟨o1,e1,_,d1⟩,o2,e2,_,d2⟩:=C
  grind
 keep:=λi h h' ⟨A,d,⟨a,c,g⟩,G,M⟩ k=>⟨k z (by simp) _ A,k TI (by simp) _ d,⟨a,c,k TO (by simp) _ g⟩,G.as λo q=>k j (by simp) o q,M.as λo q=>k m (by simp) o q⟩
 item:=by
  intro X Z hw Y R i N s σ H E I hf C hg;subst Z hw Y;let⟨xs,x,ys,y,U,hx,hr,W⟩:=hg;let⟨B,rv,p,_⟩:=I.tx U;let⟨a7,ac,p',_⟩:=I.tx hr;let⟨u,hu,ru⟩:=rv.get hx;let⟨v,hv,ab⟩:=ac.get W;let⟨A,d,⟨a,c,g⟩,G,M⟩:=C;have lt:∀b∈[z,TI,TO,j,m],b<s.heap.objs.size:=λb f=>by
   rcases(by simpa using f:b=z\/b=TI\/b=TO\/b=j\/b=m)with rfl | rfl | rfl | rfl | rfl
   .exact vI A
   .exact vI d
   .exact vI g
   .let⟨o,e,_⟩:=G;exact vI e
   .let⟨o,e,_⟩:=M;exact vI e
  have n:s.TypeIs (.ref z) "zip":=⟨_,A,rfl⟩
  unfold pyNext;refine uh (wpAny_attempt (wpAny_callSpecial?_slot (name:=Str.ofString "__next__") n F.slot_zip_next (wpAny_call_entry F.slot_zip_next n F.entry_zip_next ?_ (F.args_zip_next_1 _))));refine Gg (DS a8 (x:=u) (xs:=B.toArray) #v[hu]) (DS a9 (x:=v) (xs:=a7.toArray) #v[hv]) D A d g ⟨G,p⟩ ⟨M,p'⟩ λh' a1 a2 a3 a4 a5 S=>ug ?_
  let⟨I1,f1⟩:=I.pair (t':=s.toks) (ch:=[z,TI,TO,j,m]) (x:=x) (y:=y) hf lt ru ab a5
   (λb o f q=>S b o (λe=>f (by simp[e])) (λe=>f (by simp[e])) (λe=>f (by simp[e])) (λe=>f (by simp[e])) q)
  refine⟨_,rfl,wpAny_letOwnedTupleGo_zip a1 λh3 a6 O=>?_⟩;have I2:=I1.fW (h':=h3) (t':=s.toks) (ch:=[z,TI,TO,j,m]) f1 λb o f q=>(O.2 b λe=>f (by simp[e])).trans q
  exact⟨.ref s.heap.objs.size,_,I2,rfl,⟨_,x,y,rfl,I.cw.fresh (vb _),rfl,(λys W=>by rw[I.mr W U];exact hx),λys a0=>by rw[I.mr a0 hr];exact W⟩,
   ⟨a6,(O.2 TI D.a1).trans (S TI _ D.a1 D.a5 D.a6 D.a7 d),⟨_,_,(O.2 TO D.a2).trans a2⟩,a3.1.as λo q=>(O.2 j D.a3).trans q,a4.1.as λo q=>(O.2 m D.a4).trans q⟩,λb f=>(f1 b f).1⟩
 done:=by
  intro X Z hw Y R i N s σ H E I hf C hg;subst Z hw Y;let⟨xs,U,hl⟩:=hg;let⟨B,rv,p,_⟩:=I.tx U;let⟨A,d,⟨a,c,g⟩,G,M⟩:=C;have ad:=⇑rv;have n:s.TypeIs (.ref z) "zip":=⟨_,A,rfl⟩
  unfold pyNext;refine uh (wpAny_attempt (wpAny_callSpecial?_slot (name:=Str.ofString "__next__") n F.slot_zip_next (wpAny_call_entry F.slot_zip_next n F.entry_zip_next ?_ (F.args_zip_next_1 _))));refine Hw D (λh=>m5 J h j t i/\pX J h t B.toArray) (λh h' ⟨⟨o,e,r⟩,o',e',r'⟩ k=>⟨⟨o,k j (by simp) o e,r⟩,o',k t (by simp) o' e',r'⟩)
   (λs Q E p q=>E6 (I.ok.hd R) p.1 p.2 (by simp;lia) q) A d g ⟨G,p⟩ λh' e S he=>?_
  let⟨o,ho,R⟩:=he;refine uh (wpAny_isInstance (T:="StopIteration") (b:=true) ⟨o,ho,R⟩ isSubtype_stop ?_);exact ug ⟨rfl,I.fW (t':=s.toks) (ch:=[z,TI,TO,j,m]) hf λb o f q=>S b o (λe=>f (by simp[e])) (λe=>f (by simp[e])) (λe=>f (by simp[e])) (λe=>f (by simp[e])) q⟩
 self:=λ_ _ _ _ _ C h=>wpAny_pyIter_zip C.1 h
def oZ(bb:Bool)(K:cg)(ta:TA):TI:=λσ H R=>ta σ H λvs H1=>∃a b xs ys,vs=[.ref a,.ref b]/\fz bb K H1 a xs/\fz bb K H1 b ys/\R (oo bb K a b) H1
def kQ(N:Bool){X:Cx}{a b:Expr}{F:TA}{g:Nt}{k:Nat}{p z A:Pos}(Q:Gl X "zip")(T:X.mg "zip"= none)(O:PA X [a,b] F)(Y:starEach [a,b] X.env=[(false,eval a X.env),(false,eval b X.env)]:=by rfl)(n:starEach [b] X.env=[(false,eval b X.env)]:=by rfl) :
  PI X (.Tuple g k A) (.Call (.Name "zip" p) [a,b] [] z) (oZ N X.K F):=by
 intro y s σ H R I h;refine Call_ (Zv I Q T Ly (PyProof.Rows.callWith_type1 (cv (O z y s σ H _ I h) λus d ⟨vs,G,f,r1,q1⟩=>?_) (by rw[Y,n]) (by rw[n];rfl)));let⟨t,l,xs,ys,rfl,U,W,q⟩:=q1;let⟨u,w',rfl,r,r'⟩:=vals2 r1;cases r;cases r';let⟨a0,rv,p,hz⟩:=f.tx U;let⟨a6,a7,E,Z⟩:=f.tx W;have B:t<d.heap.objs.size:=by let⟨o,e,_⟩:=id p;exact vI e
 have v:l<d.heap.objs.size:=by let⟨o,e,_⟩:=id E;exact vI e
 refine FI p E λh' C J K L M S=>?_
 refine wpAny_pyIter_zip C ?_;have w:∀{x:Addr} (i:Nat),x<d.heap.objs.size->d.heap.objs.size+i≠x:=λi h=>vO (Nat.lt_of_lt_of_le h (Nat.le_add_right _ _))
 have D:ZA (d.heap.objs.size+4) (d.heap.objs.size+2) (d.heap.objs.size+3) d.heap.objs.size (d.heap.objs.size+1) [d.heap.objs.size,t] [d.heap.objs.size+1,l]:=
  ⟨yd nofun,yd nofun,yd (i:=0) nofun,yd nofun,yd nofun,yd (j:=0) nofun,yd nofun,yd (j:=0) nofun,yd nofun,
   by simp_all,by simp[w 3 B],by simp[w 1 B],
   by simp[w 4 v],by simp[w 3 v],by simp[w 0 v,Nat.ne_of_gt v]⟩
 refine⟨d.heap.objs.size+4,[d.heap.objs.size+4,d.heap.objs.size+2,d.heap.objs.size+3,d.heap.objs.size,d.heap.objs.size+1],_,_,G,rfl,f.kept (t':=d.toks) S,
  Gf t l _ _ _ _ _ D (vE B) (vE (Nat.lt_succ_of_lt v)),⟨C,J,⟨_,_,K⟩,L,M⟩,λc P=>?_,q⟩
 have m:d.heap.objs.size<=c:=by
  rcases(by simpa using P:c=d.heap.objs.size+4\/c=d.heap.objs.size+2\/c=d.heap.objs.size+3\/c=d.heap.objs.size\/c=d.heap.objs.size+1)with rfl | rfl | rfl | rfl | rfl<;>lia
 exact f.gX m (f.cw.fresh m)
def rd_iZipW{c:Bool}{K:cg}{d:TA}{e:St}{H:Hp}{R:It->Hp->Prop}(h:d e H λvs H1=>∃a b xs ys,vs=[.ref a,.ref b]/\fz c K H1 a xs/\fz c K H1 b ys/\R (oo c K a b) H1):oZ c K d e H R:=h
def wV{j:Bool}{K:cg}{a b:Addr}{xs ys:N2}{g:TG}{s:TS}{D:Ends}{c:St}{H:Hp}(d:Nat->St->Hp->Prop)(l:⇑xs=⇑ys)(t:d 0 c H)(B:∀i c H,i<=⇑xs->d i c H->fz j K H a xs/\fz j K H b ys)
  (C:∀i u v c H T H',xs[i]?=some u->ys[i]?=some v->d i c H->bI H H'->H' T=some (.tup [u,v])->g (.ref T) c H' λf H2=>s {D with nx:=d (i+1),ct:=d (i+1),bk:=D.nx} f H2) (z:∀c H,d ⇑xs c H->D.nx c H) :
  ∃W:Nat->Nat->St->Hp->Prop,(∃m,W 0 m c H)/\∀i m c H,W i m c H->
   ((oo j K a b).stop i H/\D.nx c H)\/((oo j K a b).go i H/\∃N:St->Hp->Prop,(∀S' H',N S' H'->∃n,n<m/\W (i+1) n S' H')/\∀x H',(oo j K a b).lF i H x H'->g x c H' λf H2=>s {D with nx:=N,ct:=N,bk:=D.nx} f H2):=by
 refine⟨λi m c H=>m=⇑xs-i/\i<=⇑xs/\d i c H,⟨⇑xs,by simp,va _,t⟩,?_⟩;rintro i m c H ⟨rfl,A,p⟩;let⟨q,r⟩:=B i c H A p;by_cases k:i<⇑xs
 .refine .inr ⟨⟨xs,xs[i],ys,ys[i],q,by simp[k],r,by simp⟩,d (i+1),λS' H' E=>⟨⇑xs-(i+1),⋯,rfl,k,E⟩,λx H' y=>?_⟩;let⟨T,u,v,rfl,w,e,y,F⟩:=y;exact C i u v c H T H' (y xs q) (F ys r) p (λb o h=>by rw[e,jh (je h w)];exact h) (by rw[e];exact jA)
 .have e:i=⇑xs:=⋯
  subst e;exact .inl ⟨⟨xs,q,vb _⟩,z c H p⟩
def W6{l:Bool}{K:cg}{a b:Addr}{xs zs:N2}{k:Nat}{ci:L6}{g:TG}{A:TT}{z:TE}{B:St}{H:Hp}{Z:Addr->N2->Hp->Prop}(d:Nat->N2->Hp->Prop)(s:⇑xs=⇑zs)(C:d 0 [] H)(G:∀i ys H,i<=⇑xs->d i ys H->fz l K H a xs/\fz l K H b zs)
  (I:∀i u v ys H T H',xs[i]?=some u->zs[i]?=some v->d i ys H->bI H H'->H' T=some (.tup [u,v])->g (.ref T) (cW k ci B) H' λc H2=>A c H2 λb j=>if b=true then z c j λv r=>⇑ys<sizeLine/\d (i+1) (ys++[v]) r else d (i+1) ys j)
  (E:∀ys H,d ⇑xs ys H->⇑ys<=sizeLine/\∀p,H p=none->Z p ys H) :
  ∃W:Nat->Nat->N2->Hp->Prop,(∃m,W 0 m [] H)/\∀i m ys H,W i m ys H->
   ((oo l K a b).stop i H/\⇑ys<=sizeLine/\∀p,H p=none->Z p ys H)\/
   ((oo l K a b).go i H/\∃N:N2->Hp->Prop,(∀f H',N f H'->∃t,t<m/\W (i+1) t f H')/\∀x H',(oo l K a b).lF i H x H'->g x (cW k ci B) H' λc H2=>A c H2 λb j=>
    if b=true then z c j λv r=>⇑ys<sizeLine/\N (ys++[v]) r else N ys j):=by
 refine⟨λi m ys H=>m=⇑xs-i/\i<=⇑xs/\d i ys H,⟨⇑xs,by simp,va _,C⟩,?_⟩;rintro i m ys H ⟨rfl,F,p⟩;let⟨q,w⟩:=G i ys H F p;by_cases n:i<⇑xs
 .refine .inr ⟨⟨xs,xs[i],zs,zs[i],q,by simp[n],w,by simp⟩,d (i+1),λf H' J=>⟨⇑xs-(i+1),⋯,rfl,n,J⟩,λx H' y=>?_⟩;let⟨T,u,v,rfl,D,e,y,L⟩:=y;exact I i u v ys H T H' (y xs q) (L zs w) p (λb o h=>by rw[e,jh (je h D)];exact h) (by rw[e];exact jA)
 .have e:i=⇑xs:=⋯
  subst e;exact .inl ⟨⟨xs,q,vb _⟩,E ys H p⟩
open PySem PySem.Spec PySem.W PyProof.Rows HT
end L2
namespace Rm
open PySem PySem.Spec PyProof.Rows L2
noncomputable def lX(pc:Nat->List Pc)(gs:L5):Nat->Nat->Int->L3
 | 0,_,_=>[]
 | n+1,i,t=>if gs.getD i 0<=t then[]else(i,t)::(du gs t (pc i)).flatMap λx=>lX pc gs n x.1 x.2
noncomputable def lV(ps:N1)(gs:L5)(i:Nat)(t:Int):L3:=lX (bZ ps gs) gs (i+1) i t
section
variable{ls:L4}{ps:N1}{gs:L5}{hs:L1}
theorem Bm(W:dC ls ps):∀{n m i:Nat} {t:Int},i<n->i<m->lX (bZ ps gs) gs n i t=lX (bZ ps gs) gs m i t
 | 0,_,_,_,h,_=>uf h (Nat.not_lt_zero _)
 | _,0,_,_,_,h=>uf h (Nat.not_lt_zero _)
 | n+1,m+1,i,t,h1,h2=>by
  unfold lX;split
  .rfl
  .congr 1;exact qW λx a=>by
    have:=QD W a;exact Bm W ⋯ ⋯
def Wh{i:Nat}{t:Int}(h:gs.getD i 0<=t):lV ps gs i t=[]:=by
 unfold lV lX;rw[vd h]
def X0(W:dC ls ps){i:Nat}{t:Int}(h:¬gs.getD i 0<=t):lV ps gs i t=(i,t)::(du gs t (bZ ps gs i)).flatMap λx=>lV ps gs x.1 x.2:=by
 unfold lV;rw[lX,vc h];congr 1;exact qW λx a=>by
  have:=QD W a;exact Bm W ⋯ ⋯
theorem wQ{p n:Type}{f:p->List n}{x:n}:∀{l:List p} {pre e:List n},l.flatMap f=pre++x::e->∃c∈l,∃a b r,f c=a++x::b/\e=b++r
 | [],pre,e,h=>by cases pre<;>simp at h
 | c::l,pre,e,h=>by
  rw[flatMap_cons]at h;rcases List.append_eq_append_iff.mp h with⟨i,o,g⟩ | ⟨i,o,g⟩
  .let⟨d,m,a,b,r,j,k⟩:=wQ g;exact⟨d,vp _ m,a,b,r,j,k⟩
  .cases i with
   | nil=>
    rw[nil_append]at g;let⟨d,m,a,b,r,j,k⟩:=wQ (pre:=[]) (show l.flatMap f=[]++x::e from g.symm);exact⟨d,vp _ m,a,b,r,j,k⟩
   | cons y i=>
    rw[cons_append]at g;injection g with e3 e4;exact⟨c,vq,pre,i,l.flatMap f,by rw[o,e3],e4⟩
def Cd{q:Pc}{t r:Int}{y:mF}(e:mE gs q)(h:cm gs t q=some y)(a:y.2.2.2=some r):0<=r/\r<gs.getD y.1 0:=by
 unfold cm at h;split at h
 .rename_i c;cases h;dsimp only at a|-;split at a
  .rename_i d;cases a;let⟨Z,f,Z⟩:=e;have b:ov gs t q=(t-q.2.2)/gs.getD q.1 0:=by
    unfold ov at d|-;split
    .rename_i z;rw[vd z]at d;lia
    .rfl
   rw[b,Int.mul_comm];have g:=ve (t-q.2.2) (show gs.getD q.1 0≠0 by lia);have i:=vf (t-q.2.2) (show 0<gs.getD q.1 0 by lia);have j:=Int.emod_add_mul_ediv (t-q.2.2) (gs.getD q.1 0);lia
  .cases a
 .cases h
def HQ(N:Sn ls ps gs hs):∀{i:Nat} {t:Int} {pre d:L3} {x:Nat×Int},lV ps gs i t=pre++x::d->∀y∈cU gs x.2 (bZ ps gs x.1),∀r,y.2.2.2=some r->(y.1,r)∈d:=by
 have W:=N.s.w;intro i
 induction i using Nat.strongRecOn with
 | ind i ih=>
  intro t pre d x h y g r f;by_cases c:gs.getD i 0<=t
  .rw[Wh c]at h;cases pre<;>simp at h
  .rw[X0 W c]at h;cases pre with
   | nil=>
    rw[nil_append]at h;injection h with h1 h2;subst h1;let⟨q,n,e⟩:=kK g;have u:=Cd (N.mP n) e f;have o:(y.1,r)∈du gs t (bZ ps gs i):=by
     unfold du;refine mem_flatMap.mpr ⟨y,g,?_⟩;unfold df;rw[f];exact mem_append_right _ (vo.mpr rfl)
    rw[<-h2];refine mem_flatMap.mpr ⟨_,o,?_⟩;show(y.1,r)∈lV ps gs y.1 r;rw[X0 W ⋯];exact vq
   | cons p pre=>
    rw[cons_append]at h;injection h with h1 h2;let⟨j,m,a,b,s,k,l⟩:=wQ h2;have:=ih j.1 (QD W m) k y g r f;rw[l];exact mem_append_left _ this
inductive fv(C:Addr)(vs:N2)(H:Hp)(Q:VK)(xk:XK):Prop
 | mk (a z) (ls:L4) (ps:N1) (gs:L5) (hs E t):vs=[.ref a,.int t]->cR C H a z ls ps gs E->Sn ls ps gs hs->0<=t->t<=gs.getD (⇑ps-1) 0->(∀(r l1 l2:Addr) (as:L7) (P:L3) (H':Hp),bI H H'->H l1=none->H l2=none->H' r=some (.tup [.ref l1,.ref l2])->H' l1=some (.lst ((eI ls ps gs E t).map V.int))->⇑(eI ls ps gs E t)=⇑ls->(∀h∈eI ls ps gs E t,0<=h/\h<=10^18)->H' l2=some (.lst (as.map V.ref))->l1≠l2->eM H' as P->⇑P<=5000->(∀x∈P,x.1<⇑ps/\0<=x.2/\x.2<gs.getD x.1 0)->P.filter (fC ps gs)=((reach ps gs (⇑ps-1) t).filter λx=>!iI gs x)->P=lV ps gs (⇑ps-1) t->Q (.ref r) H')->fv C vs H Q xk
noncomputable def dg(f:Nat->Int->PyData)(y:mF):PyData:=match y.2.2.2 with | some r=>f y.1 r | none=>.none
noncomputable def eX(ls:L4)(ps:N1)(gs:L5)(st:L5):Nat->Nat->Int->PyData
 | 0,_,_=>.none
 | n+1,i,t=>match ps[i]? with
  | some (_,.rise x _ _)=>.tuple [.int t,.int (st.getD (cn (bF ls) x) 0)]
  | some (_,.hold _)=>.tuple [.int t]
  | some (_,.ring _ _)=>.tuple [.int t]
  | some (_,.side _)=>.tuple ((cU gs t (bZ ps gs i)).map (dg (eX ls ps gs st n)))
  | some (_,_)=>.tuple [.int ((cU gs t (bZ ps gs i)).map λy=>y.2.2.1).sum,(((cU gs t (bZ ps gs i)).map (dg (eX ls ps gs st n))).getLast?).getD .none]
  | none=>.none
noncomputable def cp(ls:L4)(ps:N1)(gs:L5)(st:L5)(i:Nat)(t:Int):PyData:=eX ls ps gs st (i+1) i t
def X2(W:dC ls ps){i:Nat}{t:Int}{y:mF}(h:y∈cU gs t (bZ ps gs i)):y.1<i:=by
 let⟨q,a,e⟩:=kK h;rw[ZN e];exact XU W a
theorem Bj{st:L5}(W:dC ls ps):∀{n m i:Nat} {t:Int},i<n->i<m->eX ls ps gs st n i t=eX ls ps gs st m i t
 | 0,_,_,_,h,_=>uf h (Nat.not_lt_zero _)
 | _,0,_,_,_,h=>uf h (Nat.not_lt_zero _)
 | n+1,m+1,i,t,h1,h2=>by
  have e:(cU gs t (bZ ps gs i)).map (dg (eX ls ps gs st n))=(cU gs t (bZ ps gs i)).map (dg (eX ls ps gs st m)):=map_congr_left λy a=>by
   have:=X2 W a;unfold dg;split
   .exact Bj W ⋯ ⋯
   .rfl
  unfold eX;split<;>first | rfl | rw[e]
def XZ{st:L5}(W:dC ls ps){i:Nat}{t:Int}:(cU gs t (bZ ps gs i)).map (dg (eX ls ps gs st i))=(cU gs t (bZ ps gs i)).map (dg (cp ls ps gs st)):=map_congr_left λy a=>by
 have:=X2 W a;unfold dg;split
 .exact Bj W ⋯ ⋯
 .rfl
def ZL{st:L5}{i:Nat}{t:Int}{a x:Str}{v n:Int}(h:ps[i]?=some (a,.rise x v n)):cp ls ps gs st i t = .tuple [.int t,.int (st.getD (cn (bF ls) x) 0)]:=by unfold cp eX;rw[h]
def ZJ{st:L5}{i:Nat}{t:Int}{a:Str}{n:Int}(h:ps[i]?=some (a,.hold n)):cp ls ps gs st i t = .tuple [.int t]:=by unfold cp eX;rw[h]
def ZK{st:L5}{i:Nat}{t:Int}{a x:Str}{n:Int}(h:ps[i]?=some (a,.ring x n)):cp ls ps gs st i t = .tuple [.int t]:=by unfold cp eX;rw[h]
def Yf{st:L5}(W:dC ls ps){i:Nat}{t:Int}{a:Str}{xs:L8}(h:ps[i]?=some (a,.side xs)):cp ls ps gs st i t = .tuple ((cU gs t (bZ ps gs i)).map (dg (cp ls ps gs st))):=by
 rw[<-XZ W];unfold cp eX;rw[h]
noncomputable def iJ(Y:List mF)(F:Nat->Int->PyData):PyData:=.tuple [.int (Y.map λy=>y.2.2.1).sum,((Y.map (dg F)).getLast?).getD .none]
def kR{st:L5}(W:dC ls ps){i:Nat}{t:Int}{a:Str}{xs:L8}(h:ps[i]?=some (a,.row xs)):cp ls ps gs st i t=iJ (cU gs t (bZ ps gs i)) (cp ls ps gs st):=by
 unfold iJ;rw[<-XZ W];unfold cp eX;rw[h]
def ZI{st:L5}(W:dC ls ps){i:Nat}{t:Int}{a x:Str}{k:Int}(h:ps[i]?=some (a,.again k x)):cp ls ps gs st i t=iJ (cU gs t (bZ ps gs i)) (cp ls ps gs st):=by
 unfold iJ;rw[<-XZ W];unfold cp eX;rw[h]
def dN.none{n:Nat}:dN n .none:=⟨rfl,va _⟩
def IK{f:Nat->Int->PyData}{n:Nat}{y:mF}(h:∀r,dN n (f y.1 r)):dN n (dg f y):=by
 unfold dg;split
 .exact h _
 .exact dN.none
def Cf{n:Nat}{a b:PyData}(c:dN n a)(d:dN n b):dN (n+1) (.tuple [a,b]):=dN.tup (forall_mem_cons.mpr ⟨c,forall_mem_cons.mpr ⟨d,λq h=>nomatch h⟩⟩)
def HP{st:L5}(W:dC ls ps):∀{i:Nat} {t:Int},dN (i+1) (cp ls ps gs st i t):=by
 intro i
 induction i using Nat.strongRecOn with
 | ind i ih=>
  intro t;have c:dN (i+1) (.tuple [.int t]):=(show dN 1 (.tuple [.int t])from dN.tup (n:=0) (forall_mem_cons.mpr ⟨dN.int,λq h=>nomatch h⟩)).mono ⋯;have b:∀y∈cU gs t (bZ ps gs i),dN i (dg (cp ls ps gs st) y):=λy a=>by
   have:=X2 W a;exact IK λr=>(ih y.1 this).mono ⋯
  have g:dN (i+1) (iJ (cU gs t (bZ ps gs i)) (cp ls ps gs st)):=by
   refine Cf (dN.int.mono (va _)) ?_;cases e:((cU gs t (bZ ps gs i)).map (dg (cp ls ps gs st))).getLast? with
   | none=>exact dN.none
   | some d=>
    let⟨y,a,rfl⟩:=vK.mp (List.mem_of_getLast? e);exact b y a
  cases e:ps[i]? with
  | none=>unfold cp eX;rw[e];exact dN.none
  | some p=>
   let⟨l,f⟩:=p;cases f with
   | hold n=>rw[ZJ e];exact c
   | ring x n=>rw[ZK e];exact c
   | rise x v n=>rw[ZL e];exact(Cf (n:=0) dN.int dN.int).mono ⋯
   | side xs=>
    rw[Yf W e];exact dN.tup λd j=>by
     let⟨y,a,rfl⟩:=vK.mp j;exact b y a
   | row xs=>rw[kR W e];exact g
   | again k x=>rw[ZI W e];exact g
noncomputable def iZ(ls:L4)(ps:N1)(gs:L5)(E:L0)(t:Int):PyData:=if gs.getD (⇑ps-1) 0<=t then .none else cp ls ps gs (eI ls ps gs E t) (⇑ps-1) t
def KidsP(H:Hp)(xs:List OE)(F:Nat->Int->PyData)(Y:List mF):Prop:=∀y∈Y,DV H (gY xs [some (y.1:Int),y.2.2.2]) (dg F y)
end
def DK{ls:L4}{ps:N1}{gs:L5}{g:L1}(N:Sn ls ps gs g){i:Nat}{t:Int}{l:Str}{f:Fm}(a:ps[i]?=some (l,f))(m:0<=t)(c:(∃xs,f = .row xs)\/∃k x,f = .again k x):cU gs t (bZ ps gs i)≠[]:=by
 have d:=(vx.mp a).1;have n:=N.g1 i d;obtain⟨j,r,e⟩:∃(j:Nat) (r:List Pc),bZ ps gs i=(j,1,0)::r:=by
  unfold bZ;rw[a];rcases c with⟨xs,rfl⟩ | ⟨k,x,rfl⟩
  .cases ei:bY ps (.row xs)with
   | nil=>
    have h:=(N.s.ln i _ a).2 0 (by show(0:Int)=_;dsimp only;rw[ei];rfl);lia
   | cons j r=>
    refine⟨j,cu gs r (0+gs.getD j 0),?_⟩;show cu gs (bY ps (.row xs)) 0=_;rw[ei];rfl
  .exact⟨_,_,rfl⟩
 rw[e];unfold cU;have b:cm gs t (j,1,0)=some (j,0,ov gs t (j,1,0),if ov gs t (j,1,0)<1 then some (t-0-ov gs t (j,1,0)*gs.getD j 0)else none):=by
  unfold cm;rw[vd m]
 rw[filterMap_cons,b];exact λz=>nomatch z
def vk{C G:Prop}(a:C->G)(b:(C->G)->G):G:=b a
def Gn{a:Type}{l:List a}{d:a}(h:l≠[]):∃x,l.getLast?=some x/\l[⇑l-1]?=some x:=by
 refine⟨l.getLast h,List.getLast?_eq_some_getLast h,?_⟩;rw[<-List.getLast?_eq_getElem?];exact List.getLast?_eq_some_getLast h
theorem BH{H:Hp}:∀{xs:N2} {ds:List PyData} {v:V} {d:PyData},gN H xs ds->DV H v d->gN H (xs++[v]) (ds++[d])
 | _,_,_,_,.nil,k=>.cons k .nil
 | _,_,_,_,.cons a r,k=>.cons a (BH r k)
theorem Xh{H:Hp}:∀{xs:N2} {ds:List PyData} {i:Nat} {d:PyData},gN H xs ds->ds[i]?=some d->∃v,xs[i]?=some v/\DV H v d
 | _,_,i,_,.nil,h=>by simp at h
 | _,_,0,_,.cons a r,h=>by
  simp at h;subst h;exact⟨_,rfl,a⟩
 | _,_,i+1,_,.cons a r,h=>by
  let⟨v,b,c⟩:=Xh r #v[h];exact⟨v,#v[b],c⟩
theorem wP{H:Hp}:∀{xs:N2} {ds:List PyData},gN H xs ds->⇑xs=⇑ds
 | _,_,.nil=>rfl
 | _,_,.cons _ r=>by rw[vQ,vQ,wP r]
inductive gG(P:Program)(w:World)(C:Addr)(vs:N2)(H:Hp)(Q:VK)(xk:XK):Prop
 | mk (a l d z) (ls:L4) (ps:N1) (gs:L5) (hs E) (st:L5) (xs i t):vs=[.ref a,.ref l,.ref d,.int (i:Nat),.int t]->cR C H a z ls ps gs E->Sn ls ps gs hs->H l=some (.lst (st.map V.int))->⇑st=⇑ls->gU P w H d xs->i<⇑ps->0<=t->t<gs.getD i 0->KidsP H xs (cp ls ps gs st) (cU gs t (bZ ps gs i))->(∀(v:V) (H':Hp),bI H H'->DV H' v (cp ls ps gs st i t)->Q v H')->gG P w C vs H Q xk
inductive gE(C:Addr)(vs:N2)(H:Hp)(Q:VK)(xk:XK):Prop
 | mk (a z ls) (ps:N1) (gs:L5) (hs E t):vs=[.ref a,.int t]->cR C H a z ls ps gs E->Sn ls ps gs hs->0<=t->t<=gs.getD (⇑ps-1) 0->(∀(v:V) (H':Hp),bI H H'->DV H' v (iZ ls ps gs E t)->Q v H')->gE C vs H Q xk
noncomputable def iV(st:Addr)(L t:Int):List (Str×V):=cb "now" (.int t) (cb "last" (.int L) (cb "stage" (.ref st) []))
def wS{st:Addr}{L t:Int}:(iV st L t).lookup ("stage" : Str)=↥st:=(Ji ∅).trans ((Ji ∅).trans zH)
def FL{st:Addr}{L t:Int}:(iV st L t).lookup ("last" : Str)= ~~~L:=(Ji ∅).trans zH
def wR{st:Addr}{L t:Int}:(iV st L t).lookup ("now" : Str)= ~~~t:=zH
def GI{st:Addr}{L t u:Int}:cb "now" (.int u) (iV st L t)=iV st L u:=by
 have a:¬(("stage" : Str) = "now"):=by trivial
 have b:¬(("last" : Str) = "now"):=by trivial
 have c:¬(("stage" : Str) = "last"):=by trivial
 unfold iV;simp only[cb,if_neg a,if_neg b,if_neg c,if_true]
def YE{st:Addr}{L t:Int}{m:Str}(a:¬m = "now")(b:¬m = "last")(c:¬m = "stage"):(iV st L t).lookup m=none:=(Ji a).trans ((Ji b).trans ((Ji c).trans rfl))
structure hJ(CM CS:Addr)(H:Hp)(m st:Addr)(z:Sa)(ls:L4)(ps:N1)(gs:L5)(E:L0)(t:Int):Prop where
 ob:∃dx,H m=some (.ins CM dx (iV st (gs.getD (⇑ps-1) 0) t))
 sg:cR CS H st z ls ps gs E
 ne:m≠st
def cR.but{o:Addr}{H H':Hp}{m st:Addr}{z:Sa}{ls:L4}{ps:N1}{gs:L5}{E:L0}{C r:Addr}{s:List (Str×V)}(l:H m=some (.ins C r s))(t:m≠st)(A:cR o H st z ls ps gs E)(k:∀c u,c≠m->H c=some u->H' c=some u):cR o H' st z ls ps gs E:=by
 have n:∀{c:Addr} {f:N2},H c=some (.tup f)->H' c=some (.tup f):=λh=>k _ _ (λz=>by rw[z,l]at h;cases h) h
 have d:∀{c:Addr} {f:N2},H c=some (.lst f)->H' c=some (.lst f):=λh=>k _ _ (λz=>by rw[z,l]at h;cases h) h
 refine⟨A.ob.imp λr h=>k _ _ (Ne.symm t) h,k _ _ (λz=>by have:=A.hd;rw[z,l]at this;cases this) A.hd,d A.hf,d A.ho,bL.mono A.fo λa p h=>wW.mpr (g5.dM (λZ Z e=>n e) (wW.mp h)),d A.hs,d A.hl,A.el,bL.mono A.ea λa e ⟨g,i,j⟩=>⟨g,d i,bL.mono j λb q h=>n h⟩,A.eo,d A.hp,bL.mono A.pa λa e ⟨g,i,j⟩=>⟨g,d i,bL.mono j λb q h=>n h⟩⟩
def hJ.same{a b:Addr}{H H':Hp}{m st:Addr}{z:Sa}{ls:L4}{ps:N1}{gs:L5}{E:L0}{t:Int}(A:hJ a b H m st z ls ps gs E t)(s:bI H H'):hJ a b H' m st z ls ps gs E t:=⟨A.ob.imp λc h=>s _ _ h,A.sg.same s,A.ne⟩
inductive iq(CM CS:Addr)(vs:N2)(H:Hp)(Q:VK)(xk:XK):Prop
 | mk (m dx bx l f) (las das:L7) (ls ks gs hs):vs=[.ref m,.ref bx]->H m=some (.ins CM dx [])->H bx=some (.tup [.ref l,.ref f])->H l=some (.lst (las.map V.ref))->bL (eQ H) las ls->H f=some (.lst (das.map V.ref))->g9 H das ks->iE ls ks->Sn ls (cK ls ks) gs hs->(∀(st:Addr) (z:Sa) (E:L0) (H':Hp),(∀c u,c≠m->H c=some u->H' c=some u)->H st=none->hJ CM CS H' m st z ls (cK ls ks) gs E 0->Q .cE H')->iq CM CS vs H Q xk
inductive ir(CM CS:Addr)(vs:N2)(H:Hp)(Q:VK)(xk:XK):Prop
 | mk (m st z ls) (ps:N1) (gs:L5) (E t b):vs=[.ref m,.int b]->hJ CM CS H m st z ls ps gs E t->0<=b->b<=gs.getD (⇑ps-1) 0->(∀(H':Hp),(∀c u,c≠m->H c=some u->H' c=some u)->hJ CM CS H' m st z ls ps gs E b->Q .cE H')->ir CM CS vs H Q xk
inductive ib(CM CS:Addr)(vs:N2)(H:Hp)(Q:VK)(xk:XK):Prop
 | mk (m st z ls ps gs E t):vs=[.ref m]->hJ CM CS H m st z ls ps gs E t->Q (.int t) H->ib CM CS vs H Q xk
inductive fe(CM CS:Addr)(vs:N2)(H:Hp)(Q:VK)(xk:XK):Prop
 | mk (m st z) (ls:L4) (ps:N1) (gs:L5) (hs E t):vs=[.ref m]->hJ CM CS H m st z ls ps gs E t->Sn ls ps gs hs->0<=t->t<=gs.getD (⇑ps-1) 0->(∀(l:Addr) (H':Hp),bI H H'->H l=none->H' l=some (.lst ((cH ls ps gs E t).map V.int))->⇑(cH ls ps gs E t)=⇑ls->Q (.ref l) H')->fe CM CS vs H Q xk
inductive iw(CM CS:Addr)(vs:N2)(H:Hp)(Q:VK)(xk:XK):Prop
 | mk (m st z ls) (ps:N1) (gs:L5) (hs E t):vs=[.ref m]->hJ CM CS H m st z ls ps gs E t->Sn ls ps gs hs->0<=t->t<=gs.getD (⇑ps-1) 0->(∀(v:V) (H':Hp),bI H H'->DV H' v (iZ ls ps gs E t)->Q v H')->iw CM CS vs H Q xk
def Ft{n:Nat}(ks:L5):dN (n+1) (.list (ks.map PyData.int)):=(dN.lst (n:=0) λd a=>by
 let⟨i,q,rfl⟩:=vK.mp a;exact dN.int).mono ⋯
def cx.dM{H H':Hp}{b pl i:Addr}{d e:L7}{ls:L4}{ps:N1}(B:cx H b pl i d e ls ps)(f:∀c xs,H c=some (.tup xs)->H' c=some (.tup xs))(g:∀c xs,H c=some (.lst xs)->H' c=some (.lst xs)):cx H' b pl i d e ls ps:=
 ⟨f _ _ B.t,g _ _ B.l,B.la.mono λa x h=>f _ _ h,g _ _ B.p,B.pa.mono λa x h=>cJ.dM f h⟩
section
variable{ls:L4}{ps:N1}{gs:L5}{hs:L1}{E:L0}
structure lN(ls:L4)(ps:N1)(gs:L5)(hs:L1)(E:L0):Prop where
 N:Sn ls ps gs hs
 l:⇑E=⇑ps
 o:cP ls ps E
def lN.pos(A:lN ls ps gs hs E){i:Nat}:∀q∈E.getD i [],0<=q.1:=λq a=>(y9 A.N.s.w (by have:=A.l;lia) A.o i q a).1
theorem KL{k:Nat}:∀{es:Np} {h1 h2:L5},⇑h1=⇑h2->h1.getD k 0=h2.getD k 0->(dj es h1).getD k 0=(dj es h2).getD k 0
 | [],_,_,_,e=>e
 | q::r,h1,h2,l,e=>by
  rw[QR,QR];refine KL (by rw[length_set,length_set,l]) ?_;rw[vy,vy,List.getElem?_set,List.getElem?_set,l];split
  .rfl
  .rw[vy,vy]at e;exact e
noncomputable def iB(gs:L5)(E:L0)(l:L3)(st:L5):L5:=(l.filter (iI gs)).foldl (λh x=>dj (E.getD x.1 []) h) st
noncomputable def dJ(ps:N1)(gs:L5)(E:L0)(i:Nat)(t:Int)(st:L5):L5:=iB gs E (reach ps gs i t) st
def G0(a b:L3)(st:L5):iB gs E (a++b) st=iB gs E b (iB gs E a st):=by
 unfold iB;rw[filter_append,foldl_append]
theorem xE(f:Nat×Int->L3):∀(l:L3) (st:L5),iB gs E (l.flatMap f) st=l.foldl (λh x=>iB gs E (f x) h) st
 | [],_=>rfl
 | x::r,st=>by rw[flatMap_cons,G0,xE f r,v7]
def G1:∀(l:L3) (st:L5),⇑(iB gs E l st)=⇑st:=by
 have a:∀(l:L3) (st:L5),⇑(l.foldl (λh x=>dj (E.getD x.1 []) h) st)=⇑st:=λl=>by
  induction l with
  | nil=>exact λq=>rfl
  | cons x r ih=>intro st;rw[v7,ih,Wp]
 exact λl st=>a _ _
def G3{k:Nat}:∀{l:L3} {st:L5},(∀x∈l,∀q∈E.getD x.1 [],q.1.toNat≠k)->(iB gs E l st).getD k 0=st.getD k 0:=by
 have a:∀(l:L3) (st:L5),(∀x∈l,∀q∈E.getD x.1 [],q.1.toNat≠k)->(l.foldl (λh x=>dj (E.getD x.1 []) h) st).getD k 0=st.getD k 0:=λl=>by
  induction l with
  | nil=>exact λj j=>rfl
  | cons x r ih=>intro st h;rw[v7,ih _ λy c=>h y (vp _ c),YM (h x vq)]
 exact λ{l st} h=>a _ _ λx b=>h x (vP.mp b).1
def Fy{i:Nat}{t:Int}{st:L5}(h:gs.getD i 0<=t):dJ ps gs E i t st=dj (E.getD i []) st:=by
 unfold dJ iB;rw[j4 (.inl h)];have:iI gs (i,t)=true:=vG h;rw[v8,vd this];rfl
def Fw{i:Nat}{t:Int}{st:L5}(h:¬gs.getD i 0<=t)(c:bZ ps gs i=[]):dJ ps gs E i t st=st:=by
 unfold dJ iB;rw[j4 (.inr c)];have:¬iI gs (i,t)=true:=λz=>h (of_decide_eq_true z)
 rw[v8,vc this];rfl
def Fx(W:dC ls ps){i:Nat}{t:Int}{st:L5}(h:¬gs.getD i 0<=t)(c:bZ ps gs i≠[]):dJ ps gs E i t st=(du gs t (bZ ps gs i)).foldl (λh x=>dJ ps gs E x.1 x.2 h) st:=by
 unfold dJ;rw[Jv W (λz=>z.elim h c),xE]
def GZ(A:lN ls ps gs hs E){i:Nat}(hi:i<⇑ps){t:Int}{k:Nat}(c:((k:Nat):Int)∉hs.getD i []){st:L5}:(dJ ps gs E i t st).getD k 0=st.getD k 0:=by
 refine G3 λx b q a e=>c ?_
 have d:x.1<⇑ps:=by
  have:=Yk A.N.s.w hi b;lia
 have m:=Yl A.N hi b _ (Xi A.N A.l A.o d a);have p:=A.pos q a;rw[show((k:Nat):Int)=q.1 by lia];exact m
end
noncomputable def iD(gs:L5):L6->Int->Nat×Int
 | [],t=>(0,t)
 | j::r,t=>if gs.getD j 0<=t then((iD gs r (t-gs.getD j 0)).1+1,(iD gs r (t-gs.getD j 0)).2)else(0,t)
section
variable{ls:L4}{ps:N1}{gs:L5}{hs:L1}{E:L0}
theorem DY:∀{is:L6} {t:Int},0<=t->t<(is.map λj=>gs.getD j 0).sum->∃j,is[(iD gs is t).1]?=some j/\0<=(iD gs is t).2/\(iD gs is t).2<gs.getD j 0
 | [],t,h0,h1=>by
  have:t<0:=h1;lia
 | j::r,t,h0,h1=>by
  rw[v9,uz]at h1;unfold iD;split
  .rename_i c;exact DY (is:=r) ⋯ ⋯
  .exact⟨j,rfl,h0,by dsimp only;lia⟩
theorem Wi{t:Int}:∀{qs:List Pc},(∀q∈qs,t<q.2.2)->cU gs t qs=[]
 | [],_=>rfl
 | q::r,h=>by
  have b:=h q vq;unfold cU;rw[filterMap_cons];have:cm gs t q=none:=vc ⋯;rw[this];exact Wi λx a=>h x (vp _ a)
def qZ{t b:Int}{j:Nat}(a:1<=gs.getD j 0)(h:b<=t):cm gs t (j,1,b)=some (if gs.getD j 0<=t-b then(j,b,1,none)else(j,b,0,some (t-b))):=by
 unfold cm;rw[vd (show((j,1,b):Pc).2.2<=t from h)];have o:ov gs t (j,1,b)=if gs.getD j 0<=t-b then 1 else 0:=by
  unfold ov;by_cases c:gs.getD j 0<=t-b
  .rw[vd c];have:1<=(t-b)/gs.getD j 0:=by
    have:=Int.ediv_le_ediv (show 0<gs.getD j 0 by lia) c;rw[Int.ediv_self ⋯]at this;exact this
   dsimp only;split
   .rfl
   .lia
  .rw[vc c];have:(t-b)/gs.getD j 0=0:=Int.ediv_eq_zero_of_lt ⋯ ⋯;dsimp only;rw[this,vc nofun]
 rw[o];by_cases c:gs.getD j 0<=t-b
 .rw[vd c,vd c,vc (show¬(1:Int)<((j,1,b):Pc).2.1 from Int.lt_irrefl 1)]
 .rw[vc c,vc c,vd (show(0:Int)<((j,1,b):Pc).2.1 from Int.zero_lt_one)];dsimp only;rw[show t-b-0*gs.getD j 0=t-b by lia]
def IH{t b:Int}{j:Nat}{r:L6}(a:∀k∈j::r,1<=gs.getD k 0/\gs.getD k 0<=10^60)(h:b<=t):cU gs t (cu gs (j::r) b)=if gs.getD j 0<=t-b then(j,b,1,none)::cU gs t (cu gs r (b+gs.getD j 0))else[(j,b,0,some (t-b))]:=by
 show((j,1,b)::cu gs r (b+gs.getD j 0)).filterMap (cm gs t)=_;rw[filterMap_cons,qZ (a j vq).1 h];by_cases c:gs.getD j 0<=t-b
 .rw[vd c,vd c];rfl
 .rw[vc c,vc c];have:cU gs t (cu gs r (b+gs.getD j 0))=[]:=Wi λq e=>by
   have:=(Q6 (λk d=>⟨by have:=(a k (vp _ d)).1;lia,(a k (vp _ d)).2⟩) e).1;lia
  show _::cU gs t _=_;rw[this]
theorem X5(F:Nat->Int->PyData):∀{is:L6} {b t:Int},(∀k∈is,1<=gs.getD k 0/\gs.getD k 0<=10^60)->b<=t->t-b<(is.map λj=>gs.getD j 0).sum->∀j,is[(iD gs is (t-b)).1]?=some j->
  ((cU gs t (cu gs is b)).map λy=>y.2.2.1).sum=((iD gs is (t-b)).1:Int)/\((cU gs t (cu gs is b)).map (dg F)).getLast?=some (F j (iD gs is (t-b)).2)
 | [],b,t,_,h,h1,_,_=>by
  have:t-b<0:=h1;lia
 | i::r,b,t,hg,h,h1,j,hj=>by
  rw[v9,uz]at h1;rw[IH hg h];by_cases c:gs.getD i 0<=t-b
  .rw[vd c];have e:iD gs (i::r) (t-b)=((iD gs r (t-(b+gs.getD i 0))).1+1,(iD gs r (t-(b+gs.getD i 0))).2):=by
    show(if _ then _ else _)=_;rw[vd c,show t-b-gs.getD i 0=t-(b+gs.getD i 0) by lia]
   rw[e]at hj|-;let⟨s,l⟩:=X5 F (is:=r) (b:=b+gs.getD i 0) (t:=t) (λk a=>hg k (vp _ a)) ⋯ ⋯ j hj;rw[v9,uz,s,v9];refine⟨by dsimp only;lia,?_⟩;rw[List.getLast?_cons,l];rfl
  .rw[vc c];have e:iD gs (i::r) (t-b)=(0,t-b):=vc c;rw[e]at hj|-;cases hj;exact⟨rfl,rfl⟩
end
def Ma(lx:L8)(d:Dm):(lT lx d).ns=d.ns.map fD:=by cases d<;>rfl
def HB(ls:L4)(ks:List Dm):bF (cK ls ks)=(List.range ⇑ks).map fD:=by
 unfold bF cK;rw[v6];rfl
def Xm{ls:L4}{ks:List Dm}(W:dC ls (cK ls ks)){d:Dm}(a:∀j∈d.ns,j<⇑ks):bY (cK ls ks) (lT (bF ls) d)=d.ns:=by
 unfold bY;rw[Ma,v6];have:∀j∈d.ns,(cn (bF (cK ls ks))∘fD) j=id j:=λj b=>j2 (j:=j) W.pn (by rw[HB,vv,List.getElem?_range (a j b)];rfl)
 rw[map_congr_left this,List.map_id]
structure fX(H:Hp)(bx l f:Addr)(las das:L7)(ls:L4)(ks:List Dm):Prop where
 t:H bx=some (.tup [.ref l,.ref f])
 l:H l=some (.lst (las.map V.ref))
 la:bL (eQ H) las ls
 f:H f=some (.lst (das.map V.ref))
 d:g9 H das ks
def g5.ph{H H':Hp}{a:Addr}{g:Gv}(k:∀c xs,H c=some (.tup xs)->H' c=some (.tup xs))(h:g5 H a g):g5 H' a g:=by
 cases g with
 | mX r vs=>exact k _ _ h
 | rise x g n=>exact k _ _ h
 | again j x=>exact k _ _ h
 | many s xs=>let⟨b,d,e⟩:=h;exact⟨b,k _ _ d,k _ _ e⟩
def fX.but{H H':Hp}{n l f i:Addr}{g b:L7}{ls:L4}{ks:List Dm}{xs:N2}(B:fX H n l f g b ls ks)(o:H i=some (.lst xs))(p:l≠i)(q:f≠i)(k:∀c u,c≠i->H c=some u->H' c=some u):fX H' n l f g b ls ks:=by
 have j:∀c m,H c=some (.tup m)->H' c=some (.tup m):=λc m h=>k _ _ (Je h o (λe=>by cases e)) h
 exact⟨j _ _ B.t,k _ _ p B.l,B.la.mono λa x h=>j _ _ h,k _ _ q B.f,bL.mono B.d λa d h=>g5.ph j h⟩
def fX.same{H H':Hp}{e l f:Addr}{c b:L7}{ls:L4}{ks:List Dm}(B:fX H e l f c b ls ks)(s:bI H H'):fX H' e l f c b ls ks:=
 ⟨s _ _ B.t,s _ _ B.l,B.la.mono λa x h=>s _ _ h,s _ _ B.f,bL.mono B.d λa d h=>h.same s⟩
def fX.at'{H:Hp}{h l f:Addr}{c b:L7}{ls:L4}{ks:List Dm}(B:fX H h l f c b ls ks){i:Nat}{d:Dm}(g:ks[i]?=some d):∃a,d0 (b.map V.ref) (i:Int)=↥a/\g5 H a (gD d):=by
 have k:=B.d.1;have j:=(vx.mp g).1;obtain⟨a,e⟩:∃a,b[i]?=some a:=⟨_,vz ⋯⟩
 exact⟨a,L2.jK (by rw[vv,e];rfl),B.d.2 i a d e g⟩
structure rP(ls:L4)(ks:List Dm)(gs:L5)(hs:L1)(E:L0):Prop where
 x:iE ls ks
 a:lN ls (cK ls ks) gs hs E
def g8(H:Hp)(v:V)(d:PyData):Prop:=∀H2,(∀a xs,H a=some (.tup xs)->H2 a=some (.tup xs))->DV H2 v d
def g8.keep{H H':Hp}{v:V}{d:PyData}(h:g8 H v d)(k:∀a xs,H a=some (.tup xs)->H' a=some (.tup xs)):g8 H' v d:=λb c=>h b λa xs z=>c _ _ (k _ _ z)
inductive gA(vs:N2)(H:Hp)(Q:VK)(xk:XK):Prop
 | mk (bx l f las das ls ks) (gs:L5) (hs):vs=[.ref bx]->fX H bx l f las das ls ks->iE ls ks->Sn ls (cK ls ks) gs hs->(∀(p:Addr) (H':Hp),bI H H'->H p=none->H' p=some (.lst (gs.map V.int))->Q (.ref p) H')->gA vs H Q xk
def Lu{b:Bool}{A R:Prop}(h:b=true->R->A)(r:R):if b=true then A else R:=by
 split
 .rename_i c;exact h c r
 .exact r
theorem CA{H:Hp}:∀{xs:N2} {ds:List PyData},⇑ds=⇑xs->(∀(m:Nat) (v:V) (d:PyData),xs[m]?=some v->ds[m]?=some d->DV H v d)->gN H xs ds
 | [],[],_,_=>.nil
 | v::xs,d::ds,l,h=>.cons (h 0 v d rfl rfl) (CA (Nat.succ.inj l) λm v d a b=>h (m+1) v d a b)
inductive j0:Nat->PyData->Prop
 | int (n:Nat) (i:Int):j0 n (.int i)
 | cE (n:Nat):j0 n .none
 | tup (n:Nat) (ds:List PyData):⇑ds<=8->(∀d∈ds,j0 n d)->j0 (n+1) (.tuple ds)
inductive dD(vs:N2)(H:Hp)(Q:VK)(xk:XK):Prop
 | mk (v b):vs=[v]->((∃i,v = .int i/\b=true)\/∃(a:Addr) (xs:N2),v = .ref a/\H a=some (.tup xs)/\b=false)->Q (.bl b) H->dD vs H Q xk
def j0.mono:∀{n:Nat} {d:PyData},j0 n d->∀{m:Nat},n<=m->j0 m d
 | _,_,.int _ i,_,_=>.int _ i
 | _,_,.cE _,_,_=>.cE _
 | _,_,.tup n ds l h,0,z=>uf z ⋯
 | _,_,.tup n ds l h,m+1,z=>.tup m ds l λd a=>(h d a).mono ⋯
section
variable{ls:L4}{ps:N1}{gs:L5}
def DJ{n:Nat}{a b:PyData}(c:j0 n a)(d:j0 n b):j0 (n+1) (.tuple [a,b]):=.tup n _ (by show 2<=8;decide) (forall_mem_cons.mpr ⟨c,forall_mem_cons.mpr ⟨d,λq h=>nomatch h⟩⟩)
def Li{st:L5}(W:dC ls ps)(l:∀(i:Nat) (nm:Str) (xs:L8) (t:Int),ps[i]?=some (nm,.side xs)->⇑(cU gs t (bZ ps gs i))<=8):∀{i:Nat} {t:Int},j0 (i+1) (cp ls ps gs st i t):=by
 intro i
 induction i using Nat.strongRecOn with
 | ind i ih=>
  intro t;have c:j0 (i+1) (.tuple [.int t]):=.tup i _ (by show 1<=8;decide) (forall_mem_cons.mpr ⟨.int _ _,λq h=>nomatch h⟩);have b:∀y∈cU gs t (bZ ps gs i),j0 i (dg (cp ls ps gs st) y):=λy a=>by
   have:=X2 W a;unfold dg;split
   .exact(ih y.1 this).mono ⋯
   .exact .cE _
  have g:j0 (i+1) (iJ (cU gs t (bZ ps gs i)) (cp ls ps gs st)):=by
   refine DJ (.int _ _) ?_;cases e:((cU gs t (bZ ps gs i)).map (dg (cp ls ps gs st))).getLast? with
   | none=>exact .cE _
   | some d=>
    let⟨y,a,rfl⟩:=vK.mp (List.mem_of_getLast? e);exact b y a
  cases e:ps[i]? with
  | none=>unfold cp eX;rw[e];exact .cE _
  | some p=>
   let⟨nm,f⟩:=p;cases f with
   | hold n=>rw[ZJ e];exact c
   | ring x n=>rw[ZK e];exact c
   | rise x v n=>rw[ZL e];exact DJ (.int _ _) (.int _ _)
   | side xs=>
    rw[Yf W e];refine .tup i _ (by rw[vt];exact l i nm xs t e) λd j=>?_
    let⟨y,a,rfl⟩:=vK.mp j;exact b y a
   | row xs=>rw[kR W e];exact g
   | again k x=>rw[ZI W e];exact g
end
def HN{ls:L4}{ks:List Dm}{gs:L5}{E:L0}{t:Int}(W:dC ls (cK ls ks))(X:iE ls ks)(k:1<=⇑ks):j0 61 (iZ ls (cK ls ks) gs E t):=by
 unfold iZ;split
 .exact .cE _
 .have g:=X.nF;refine j0.mono (Li W λi m h t e=>?_) (by rw[Jr];lia);have b:=(vx.mp e).1;rw[Jr]at b;have a:ks[i]?=some ks[i]:=vz b;have c:=yV (ls:=ls) a;rw[c]at e;have d:lT (bF ls) ks[i] = .side h:=(Prod.mk.inj (vL e)).2;have l:=X.dw.l8 ks[i] (vm a);refine vW (List.length_filterMap_le _ _) ?_;unfold bZ;rw[c];show(dt gs (lT (bF ls) ks[i]) (bY (cK ls ks) (lT (bF ls) ks[i]))).length<=8;rw[Xm W λj f=>by have:=X.dw.lt i _ a j f;lia,d];show(ks[i].ns.map _).length<=8;rw[vt];exact l
section
variable{ls:L4}{ps:N1}{gs:L5}{hs:L1}{E:L0}{k:Nat}
noncomputable def iF(ls:L4)(ps:N1)(gs:L5)(E:L0)(i:Nat)(t:Int)(st:L5):L5:=(reach ps gs i t).foldl (cS ls ps gs E) st
noncomputable def w1(gs:L5)(t:Int)(q:Pc):L3:=match cm gs t q with | some y=>df gs y | none=>[]
theorem kZ(t:Int):∀qs:List Pc,du gs t qs=qs.flatMap (w1 gs t)
 | []=>rfl
 | q::r=>by
  have a:=kZ t r;unfold du cU at a|-;rw[filterMap_cons,flatMap_cons,<-a];unfold w1;cases cm gs t q with
  | none=>rfl
  | some y=>rw[flatMap_cons]
def GB{i:Nat}{t:Int}{st:L5}(h:gs.getD i 0<=t):iF ls ps gs E i t st=dj (E.getD i []) st:=by
 unfold iF;rw[j4 (.inl h)];show cS ls ps gs E st (i,t)=_;unfold cS;rw[vd h];rfl
def Bu(W:dC ls ps){i:Nat}{t:Int}{st:L5}(h:¬gs.getD i 0<=t)(c:bZ ps gs i≠[]):iF ls ps gs E i t st=(du gs t (bZ ps gs i)).foldl (λh x=>iF ls ps gs E x.1 x.2 h) st:=by
 unfold iF;rw[Jv W (λz=>z.elim h c),wU]
def Wr{h:L5}{a:Nat}{v:Int}(b:a≠k):(h.set a v).getD k 0=h.getD k 0:=by
 rw[vy,vy,List.getElem?_set_ne b]
def wD(h:L5)(x:Nat×Int):⇑(cS ls ps gs E h x)=⇑h:=by
 unfold cS;split
 .exact Wp _ _
 .split
  .exact length_set
  .rfl
def GC(A:lN ls ps gs hs E){h:L5}{x:Nat×Int}(c:x.1<⇑ps)(a:((k:Nat):Int)∉hs.getD x.1 []):(cS ls ps gs E h x).getD k 0=h.getD k 0:=by
 unfold cS;split
 .refine YM λq b e=>a ?_
  have p:=A.pos q b;rw[show((k:Nat):Int)=q.1 by lia];exact Xi A.N A.l A.o c b
 .split
  .rename_i nm y v n hp;refine Wr λe=>a ?_
   rw[<-e];exact((A.N.m x.1 _ _ hp (YV A.N.s A.N.hl c)).2 _).mpr (.inr ⟨y,v,n,rfl,rfl⟩)
  .rfl
def FA{b a:L5}{x:Nat×Int}(l:⇑b=⇑a)(e:b.getD k 0=a.getD k 0):(cS ls ps gs E b x).getD k 0=(cS ls ps gs E a x).getD k 0:=by
 unfold cS;split
 .exact KL l e
 .split
  .rename_i nm y v n hp;by_cases c:cn (bF ls) y=k
   .rw[c,e];generalize Rp.ramp (a.getD k 0) v n x.2=w;rw[vy,vy];by_cases d:k<⇑a
    .rw[List.getElem?_set_self ⋯,List.getElem?_set_self d]
    .rw[List.getElem?_eq_none (by rw[length_set];lia),List.getElem?_eq_none (by rw[length_set];lia)]
   .rw[Wr c,Wr c,e]
  .exact e
theorem Cp:∀(l:L3) (st:L5),⇑(l.foldl (cS ls ps gs E) st)=⇑st
 | [],_=>rfl
 | x::r,st=>by rw[v7,Cp r,wD]
def Ib{i:Nat}{t:Int}{st:L5}:⇑(iF ls ps gs E i t st)=⇑st:=Cp _ _
theorem wC:∀(l:L3) {h1 h2:L5},⇑h1=⇑h2->h1.getD k 0=h2.getD k 0->(l.foldl (cS ls ps gs E) h1).getD k 0=(l.foldl (cS ls ps gs E) h2).getD k 0
 | [],_,_,_,e=>e
 | x::r,h1,h2,l,e=>by
  rw[v7,v7];exact wC r (by rw[wD,wD,l]) (FA l e)
def Ic(A:lN ls ps gs hs E){i:Nat}(hi:i<⇑ps){t:Int}(c:((k:Nat):Int)∉hs.getD i []){st:L5}:(iF ls ps gs E i t st).getD k 0=st.getD k 0:=by
 have b:∀(l:L3) (st:L5),(∀x∈l,x.1<⇑ps/\((k:Nat):Int)∉hs.getD x.1 [])->(l.foldl (cS ls ps gs E) st).getD k 0=st.getD k 0:=λl=>by
  induction l with
  | nil=>exact λq q=>rfl
  | cons x r ih=>
   intro st h;rw[v7,ih _ λy d=>h y (vp _ d)];exact GC A (h x vq).1 (h x vq).2
 exact b _ _ λx a=>⟨Yk A.N.s.w hi a,λz=>c (Yl A.N hi a _ z)⟩
def rC(gs:L5)(hs:L1)(k:Nat)(u t:Int)(q:Pc):Prop:=((k:Nat):Int)∉hs.getD q.1 []\/(cm gs u q=cm gs t q/\∀y,cm gs t q=some y->y.2.2.2=none)
def pN(gs:L5)(hs:L1)(k:Nat)(u t:Int)(q:Pc):Prop:=((k:Nat):Int)∉hs.getD q.1 []\/(cm gs u q=none/\cm gs t q=none)
def Wx{t:Int}{q:Pc}{x:Nat×Int}(h:x∈w1 gs t q):x.1=q.1:=by
 unfold w1 at h;split at h
 .rename_i y e;have:=ZN e;unfold df at h;rcases vh.mp h with z | z
  .split at z
   .rw[vo.mp z];exact this
   .exact nomatch z
  .split at z
   .rw[vo.mp z];exact this
   .exact nomatch z
 .exact nomatch h
def zn(l:L3):∀(st:L5),⇑(l.foldl (λh x=>iF ls ps gs E x.1 x.2 h) st)=⇑st:=by
 induction l with
 | nil=>exact λq=>rfl
 | cons x r ih=>intro st;rw[v7,ih,Ib]
def BQ{i:Nat}{t:Int}{st:L5}:⇑(dJ ps gs E i t st)=⇑st:=G1 _ _
def QS(l:L3):∀(st:L5),⇑(l.foldl (λh x=>dJ ps gs E x.1 x.2 h) st)=⇑st:=by
 induction l with
 | nil=>exact λq=>rfl
 | cons x r ih=>intro st;rw[v7,ih,BQ]
theorem Z9(A:lN ls ps gs hs E):∀(l:L3) (st:L5),(∀x∈l,x.1<⇑ps/\((k:Nat):Int)∉hs.getD x.1 [])->(l.foldl (λh x=>iF ls ps gs E x.1 x.2 h) st).getD k 0=st.getD k 0
 | [],_,_=>rfl
 | x::r,st,h=>by
  rw[v7,Z9 A r _ λy a=>h y (vp _ a)];exact Ic A (h x vq).1 (h x vq).2
theorem Zu(A:lN ls ps gs hs E):∀(l:L3) (st:L5),(∀x∈l,x.1<⇑ps/\((k:Nat):Int)∉hs.getD x.1 [])->(l.foldl (λh x=>dJ ps gs E x.1 x.2 h) st).getD k 0=st.getD k 0
 | [],_,_=>rfl
 | x::r,st,h=>by
  rw[v7,Zu A r _ λy a=>h y (vp _ a)];exact GZ A (h x vq).1 (h x vq).2
def xz{c:Nat}{o:Int}{a b:L5}(l:⇑a=⇑b)(e:a.getD k 0=b.getD k 0) :
  ((if 0<o then[((c,gs.getD c 0):Nat×Int)]else[]).foldl (λh x=>iF ls ps gs E x.1 x.2 h) a).getD k 0=((if 0<o then[((c,gs.getD c 0):Nat×Int)]else[]).foldl (λh x=>dJ ps gs E x.1 x.2 h) b).getD k 0:=by
 split
 .show(iF ls ps gs E c (gs.getD c 0) a).getD k 0=(dJ ps gs E c (gs.getD c 0) b).getD k 0;rw[GB (vA _),Fy (vA _)];exact KL l e
 .exact e
theorem Bt(A:lN ls ps gs hs E){u t:Int}:∀(qs:List Pc) {h1 h2:L5},(∀q∈qs,q.1<⇑ps/\rC gs hs k u t q)->⇑h1=⇑h2->h1.getD k 0=h2.getD k 0->
  ((qs.flatMap (w1 gs u)).foldl (λh x=>iF ls ps gs E x.1 x.2 h) h1).getD k 0=((qs.flatMap (w1 gs t)).foldl (λh x=>dJ ps gs E x.1 x.2 h) h2).getD k 0
 | [],_,_,_,_,e=>e
 | q::r,h1,h2,h,l,e=>by
  let⟨c,i⟩:=h q vq;rw[flatMap_cons,flatMap_cons,foldl_append,foldl_append];refine Bt A r (λy g=>h y (vp _ g)) (by rw[zn,QS,l]) ?_;rcases i with b | ⟨f,d⟩
  .rw[Z9 A _ _ λx a=>by rw[Wx a];exact⟨c,b⟩,Zu A _ _ λx a=>by rw[Wx a];exact⟨c,b⟩,e]
  .unfold w1;rw[f];cases ep:cm gs t q with
   | none=>exact e
   | some y=>
    have:=d y ep;dsimp only;unfold df;rw[this,append_nil];exact xz l e
theorem Dd(A:lN ls ps gs hs E){u t:Int}:∀(qs:List Pc) (h1:L5),(∀q∈qs,q.1<⇑ps/\pN gs hs k u t q)->((qs.flatMap (w1 gs u)).foldl (λh x=>iF ls ps gs E x.1 x.2 h) h1).getD k 0=h1.getD k 0
 | [],_,_=>rfl
 | q::r,h1,h=>by
  let⟨f,e⟩:=h q vq;rw[flatMap_cons,foldl_append,Dd A r _ λy d=>h y (vp _ d)];rcases e with b | ⟨a,j⟩
  .exact Z9 A _ _ λx c=>by rw[Wx c];exact⟨f,b⟩
  .unfold w1;rw[a];rfl
theorem Cq(A:lN ls ps gs hs E){u t:Int}:∀(qs:List Pc) (h1:L5),(∀q∈qs,q.1<⇑ps/\pN gs hs k u t q)->((qs.flatMap (w1 gs t)).foldl (λh x=>dJ ps gs E x.1 x.2 h) h1).getD k 0=h1.getD k 0
 | [],_,_=>rfl
 | q::r,h1,h=>by
  let⟨f,e⟩:=h q vq;rw[flatMap_cons,foldl_append,Cq A r _ λy d=>h y (vp _ d)];rcases e with b | ⟨j,a⟩
  .exact Zu A _ _ λx c=>by rw[Wx c];exact⟨f,b⟩
  .unfold w1;rw[a];rfl
def X1{t r a o:Int}{q:Pc}{c:Nat}{b:Int}(v:1<=gs.getD q.1 0)(e:cm gs t q=some (c,b,o,some a))(B:0<=r)(C:r<=a):cm gs (t-r) q=some (c,b,o,some (a-r))/\c=q.1/\b=q.2.2/\b+a<=t:=by
 unfold cm at e|-;split at e
 .rename_i h;have e:=vL e;let⟨g,e⟩:=Prod.mk.inj e;let⟨i,e⟩:=Prod.mk.inj e;let⟨j,f⟩:=Prod.mk.inj e;split at f
  .rename_i d;have f:=vL f;have l:ov gs t q=(t-q.2.2)/gs.getD q.1 0:=by
    unfold ov at d|-;split
    .rename_i z;rw[vd z]at d;lia
    .rfl
   have y:=Int.emod_add_mul_ediv (t-q.2.2) (gs.getD q.1 0);have w:=ve (t-q.2.2) (show gs.getD q.1 0≠0 by lia);have x:=vf (t-q.2.2) (show 0<gs.getD q.1 0 by lia);have u:(t-q.2.2)%gs.getD q.1 0=a:=by
    rw[<-f,l,Int.mul_comm];lia
   have n:0<=(t-q.2.2)/gs.getD q.1 0:=Int.ediv_nonneg ⋯ ⋯;have A:0<=gs.getD q.1 0*((t-q.2.2)/gs.getD q.1 0):=Int.mul_nonneg ⋯ n;have s:q.2.2+a<=t:=⋯
   have m:(t-r-q.2.2)/gs.getD q.1 0=(t-q.2.2)/gs.getD q.1 0:=by
    have:t-r-q.2.2=(a-r)+gs.getD q.1 0*((t-q.2.2)/gs.getD q.1 0):=⋯
    rw[this,Int.add_mul_ediv_left _ _ ⋯,Int.ediv_eq_zero_of_lt ⋯ ⋯,ux]
   have p:ov gs (t-r) q=ov gs t q:=by
    unfold ov;rw[m]
   have k:t-r-q.2.2-ov gs t q*gs.getD q.1 0=a-r:=⋯
   rw[vd ⋯,p,vd d,k,j,g,i];exact⟨rfl,rfl,rfl,⋯⟩
  .cases f
 .cases e
theorem xC{t r d o:Int}{c:Nat}{C:Int}(z:0<=r)(A:r<=d):∀{is:L6} {b:Int} {q:Pc},(∀j∈is,1<=gs.getD j 0/\gs.getD j 0<=10^60)->q∈cu gs is b->cm gs t q=some (c,C,o,some d)->
  ∃F B,cu gs is b=F++q::B/\(∀x∈F,rC gs hs k (t-r) t x/\rC gs hs k t t x)/\∀x∈B,pN gs hs k (t-r) t x/\pN gs hs k t t x
 | [],_,_,_,h,_=>nomatch h
 | i::is,b,q,g,h,e=>by
  have s:=g i vq;have m:∀j∈is,1<=gs.getD j 0/\gs.getD j 0<=10^60:=λj n=>g j (vp _ n)
  have w:∀j∈is,0<=gs.getD j 0/\gs.getD j 0<=10^60:=λj n=>⟨by have:=(m j n).1;lia,(m j n).2⟩
  rcases mem_cons.mp (show q∈(i,1,b)::cu gs is (b+gs.getD i 0)from h)with rfl | u
  .refine⟨[],cu gs is (b+gs.getD i 0),rfl,(λx f=>nomatch f),λx f=>?_⟩;have I:b<=t:=by
    unfold cm at e;split at e
    .assumption
    .cases e
   rw[qZ s.1 I]at e;have M:t-b<gs.getD i 0:=by
    split at e
    .cases e
    .lia
   have L:=(Q6 w f).1;have v:cm gs t x=none:=vc ⋯;have J:cm gs (t-r) x=none:=vc ⋯;exact⟨.inr ⟨J,v⟩,.inr ⟨v,v⟩⟩
  .let⟨F,B,D,G,H⟩:=xC z A (is:=is) m u e;refine⟨(i,1,b)::F,B,by show _::cu gs is _=_;rw[D];rfl,λx f=>?_,H⟩;rcases mem_cons.mp f with rfl | f
   .have K:=(Q6 w u).1;have a:=X1 (gs:=gs) (by have:=(m q.1 (KH u).1).1;lia) e z A;have p:cm gs t (i,1,b)=some (i,b,1,none):=by rw[qZ s.1 ⋯,vd ⋯]
    have E:cm gs (t-r) (i,1,b)=some (i,b,1,none):=by rw[qZ s.1 ⋯,vd ⋯]
    exact⟨.inr ⟨by rw[p,E],λy l=>by rw[p]at l;cases l;rfl⟩,.inr ⟨rfl,λy l=>by rw[p]at l;cases l;rfl⟩⟩
   .exact G x f
def GH{b:Type}{p:b->Bool}{pre a:List b}{x:b}(h:⇑((pre++x::a).filter p)<=1)(c:p x=true):∀y∈pre++a,p y=false:=by
 rw[filter_append,v8,vd c,vn,vQ]at h;intro y d;cases e:p y with
 | false=>rfl
 | true=>
  rcases vh.mp d with z | z
  .have:=length_pos_of_mem (vP.mpr ⟨z,e⟩);lia
  .have:=length_pos_of_mem (vP.mpr ⟨z,e⟩);lia
def Hf(A:lN ls ps gs hs E){i:Nat}(hi:i<⇑ps){t r f o:Int}{c:Nat}{N:Int}(L:0<=r)(M:r<=f){q:Pc}(b:q∈bZ ps gs i)(R:((k:Nat):Int)∈hs.getD q.1 [])(e:cm gs t q=some (c,N,o,some f)) :
  ∃F B,bZ ps gs i=F++q::B/\(∀x∈F,rC gs hs k (t-r) t x/\rC gs hs k t t x)/\∀x∈B,pN gs hs k (t-r) t x/\pN gs hs k t t x:=by
 have D:ps[i]?=some ps[i]:=vz hi;have I:bZ ps gs i=dt gs ps[i].2 (bY ps ps[i].2):=by unfold bZ;rw[D]
 have h:∀j∈bY ps ps[i].2,1<=gs.getD j 0/\gs.getD j 0<=10^60:=λj C=>A.N.g (by have:=A.N.s.w.cq D C;lia)
 have m:q.1∈bY ps ps[i].2:=by rw[I]at b;exact kJ b
 have p:=X1 (gs:=gs) (h _ m).1 e L M;rw[I]at b|-;cases ef:ps[i].2 with
 | hold n=>rw[ef]at b;exact nomatch b
 | ring x n=>rw[ef]at b;exact nomatch b
 | rise x v n=>rw[ef]at b;exact nomatch b
 | row xs=>
  rw[ef]at b h;exact xC L M h b e
 | side xs=>
  have H:=(A.N.s.sd i _ xs D ef).2 (k:Nat);rw[ef]at b H m;let⟨j,C,rfl⟩:=vK.mp (show q∈(bY ps (.side xs)).map λj=>((j,1,0):Pc)from b);let⟨T,K,g⟩:=List.append_of_mem C;show∃F B,(bY ps (.side xs)).map (λj=>((j,1,0):Pc))=_/\_;rw[g,vj,v9]at H|-;have J:=GH H (vG R);refine⟨_,_,rfl,λx d=>?_,λx d=>?_⟩
  .let⟨a,w,rfl⟩:=vK.mp d;have:=of_decide_eq_false (J _ (mem_append_left _ (vK.mpr ⟨a,w,rfl⟩)));exact⟨.inl this,.inl this⟩
  .let⟨a,w,rfl⟩:=vK.mp d;have:=of_decide_eq_false (J _ (mem_append_right _ (vK.mpr ⟨a,w,rfl⟩)));exact⟨.inl this,.inl this⟩
 | again n z=>
  rw[ef]at b m h;obtain⟨j,g⟩:∃j,bY ps (.again n z)=[j]:=⟨_,rfl⟩
  rw[g]at b m h|-;have u:=h j vq;change q∈((j,1,0):Pc)::(if 1<n then[(j,n-1,gs.getD j 0)]else[])at b;show∃F B,((j,1,0):Pc)::(if 1<n then[(j,n-1,gs.getD j 0)]else[])=_/\_;rcases mem_cons.mp b with rfl | b
  .refine⟨[],_,rfl,(λx d=>nomatch d),λx d=>?_⟩;have Q:(0:Int)<=t:=by
    unfold cm at e;split at e
    .assumption
    .cases e
   rw[qZ u.1 Q]at e;have W:t-0<gs.getD j 0:=by
    split at e
    .cases e
    .lia
   split at d
   .rw[vo.mp d];have G:cm gs t (j,n-1,gs.getD j 0)=none:=vc (by dsimp only;lia);have S:cm gs (t-r) (j,n-1,gs.getD j 0)=none:=vc (by dsimp only;lia);exact⟨.inr ⟨S,G⟩,.inr ⟨G,G⟩⟩
   .exact nomatch d
  .split at b
   .rename_i n1;rw[vd n1];obtain rfl:=vo.mp b;refine⟨[(j,1,0)],[],rfl,λx d=>?_,λx d=>nomatch d⟩;obtain rfl:=vo.mp d;let⟨Z,Z,O,U⟩:=p;dsimp only at O;have s:cm gs t (j,1,0)=some (j,0,1,none):=by rw[qZ u.1 ⋯,vd ⋯]
    have P:cm gs (t-r) (j,1,0)=some (j,0,1,none):=by rw[qZ u.1 ⋯,vd ⋯]
    exact⟨.inr ⟨by rw[s,P],λy l=>by rw[s]at l;cases l;rfl⟩,.inr ⟨rfl,λy l=>by rw[s]at l;cases l;rfl⟩⟩
   .exact nomatch b
def D5(A:lN ls ps gs hs E):∀{i:Nat},i<⇑ps->∀{t:Int},0<=t->∀{j:Nat} {r:Int},(j,r)∈reach ps gs i t->r<gs.getD j 0->∀{nm x:Str} {v n:Int},ps[j]?=some (nm,.rise x v n)->cn (bF ls) x=k->k<⇑ls->
  0<=r/\r<=t/\∀st:L5,⇑st=⇑ls->(iF ls ps gs E i (t-r) st).getD k 0=(dJ ps gs E i t st).getD k 0/\(iF ls ps gs E i t st).getD k 0=Rp.ramp ((dJ ps gs E i t st).getD k 0) v n r:=by
 intro i
 induction i using Nat.strongRecOn with
 | ind i ih=>
  intro hi t t0 j r G lt nm x v n D N kl;have W:=A.N.s.w;by_cases c:gs.getD i 0<=t\/bZ ps gs i=[]
  .rw[j4 c]at G;let⟨rfl,rfl⟩:=Prod.mk.inj (vo.mp G);have O:¬gs.getD j 0<=r:=⋯
   have pe:bZ ps gs j=[]:=c.resolve_left O;refine⟨t0,vA _,λst R=>?_⟩;have U:∀s:Int,¬gs.getD j 0<=s->(iF ls ps gs E j s st).getD k 0=Rp.ramp (st.getD k 0) v n s:=λs ns=>by
    unfold iF;rw[j4 (.inr pe)];show(cS ls ps gs E st (j,s)).getD k 0=_;unfold cS;rw[vc ns,D];dsimp only;rw[N,vy,List.getElem?_set_self ⋯];rfl
   have n1:=(A.N.sU j nm x v n D).2.2.1;have g1:=(A.N.g hi).1;rw[Fw O pe];refine⟨?_,U r O⟩;rw[Int.sub_self,U 0 ⋯];unfold Rp.ramp;rw[Int.mul_zero,Int.zero_ediv,Int.add_zero]
  .have Y:¬gs.getD i 0<=t:=λz=>c (.inl z)
   have H:bZ ps gs i≠[]:=λz=>c (.inr z)
   rw[Jv W c,kZ]at G;let⟨y,hy,d⟩:=mem_flatMap.mp G;let⟨q,L,a⟩:=mem_flatMap.mp hy;have P:∀b∈bZ ps gs i,b.1<i:=λb M=>XU W M
   have ql:=P q L;have p:y.1<⇑ps:=by rw[Wx a];lia
   cases ep:cm gs t q with
   | none=>unfold w1 at a;rw[ep]at a;exact nomatch a
   | some z=>
    let⟨cc,X,o,rs⟩:=z;have ec:cc=q.1:=ZN ep;subst ec;have g:y≠(q.1,gs.getD q.1 0):=λe=>by
     rw[e,j4 (.inl (vA _))]at d;let⟨rfl,rfl⟩:=Prod.mk.inj (vo.mp d);lia
    unfold w1 at a;rw[ep]at a;unfold df at a;dsimp only at a;rcases vh.mp a with z | z
    .split at z
     .exact uf (vo.mp z) g
     .exact nomatch z
    cases rs with
    | none=>exact nomatch z
    | some rest=>
     obtain rfl:=vo.mp z;have m:=A.N.mP L;have rl:=Cd m ep rfl;dsimp only at rl d p;let⟨Q,r1,Z⟩:=ih q.1 ql p rl.1 d lt D N kl;have hk:((k:Nat):Int)∈hs.getD q.1 []:=by
      refine Yl A.N p d _ ?_;have jl:=Yk W p d;refine((A.N.m j _ _ D (YV A.N.s A.N.hl jl)).2 _).mpr (.inr ⟨x,v,n,rfl,by rw[N]⟩)
     let⟨F,B,C,hF,hB⟩:=Hf A hi Q r1 L hk ep;let⟨pu,_,eb,le⟩:=X1 (gs:=gs) (A.N.g p).1 ep Q r1;have b0:0<=X:=by rw[eb];exact m.2.2.2.2.2.1
     refine⟨Q,⋯,λst R=>?_⟩;have Fl:∀b∈F,b.1<⇑ps:=λb h=>by have:=P b (by rw[C];exact mem_append_left _ h);lia
     have S:∀b∈B,b.1<⇑ps:=λb h=>by have:=P b (by rw[C];exact mem_append_right _ (vp _ h));lia
     have nu:¬gs.getD i 0<=t-r:=⋯
     have f:∀(u w:Int),Rp.ramp 0 0 1 0=0->cm gs u q=some (q.1,X,o,some w)->(∀x∈F,rC gs hs k u t x)->(∀x∈B,pN gs hs k u t x)->∃J K:L5,⇑J=⇑ls/\⇑K=⇑ls/\J.getD k 0=K.getD k 0/\
       ((du gs u (bZ ps gs i)).foldl (λh x=>iF ls ps gs E x.1 x.2 h) st).getD k 0=(iF ls ps gs E q.1 w J).getD k 0/\((du gs t (bZ ps gs i)).foldl (λh x=>dJ ps gs E x.1 x.2 h) st).getD k 0=(dJ ps gs E q.1 rest K).getD k 0:=λu w _ eu aF T=>by
      refine⟨(if 0<o then[((q.1,gs.getD q.1 0):Nat×Int)]else[]).foldl (λh x=>iF ls ps gs E x.1 x.2 h) ((F.flatMap (w1 gs u)).foldl (λh x=>iF ls ps gs E x.1 x.2 h) st),
       (if 0<o then[((q.1,gs.getD q.1 0):Nat×Int)]else[]).foldl (λh x=>dJ ps gs E x.1 x.2 h) ((F.flatMap (w1 gs t)).foldl (λh x=>dJ ps gs E x.1 x.2 h) st),
       by rw[zn,zn,R],by rw[QS,QS,R],
       xz (by rw[zn,QS]) (Bt A F (λb h=>⟨Fl b h,aF b h⟩) rfl rfl),?_,?_⟩
      .rw[kZ,C,flatMap_append,flatMap_cons,foldl_append,foldl_append,Dd A B _ λb h=>⟨S b h,T b h⟩];have:w1 gs u q=(if 0<o then[((q.1,gs.getD q.1 0):Nat×Int)]else[])++[(q.1,w)]:=by unfold w1;rw[eu];rfl
       rw[this,foldl_append];rfl
      .rw[kZ,C,flatMap_append,flatMap_cons,foldl_append,foldl_append,Cq A B _ λb h=>⟨S b h,T b h⟩];have:w1 gs t q=(if 0<o then[((q.1,gs.getD q.1 0):Nat×Int)]else[])++[(q.1,rest)]:=by unfold w1;rw[ep];rfl
       rw[this,foldl_append];rfl
     have l:Rp.ramp 0 0 1 0=0:=by decide
     rw[Bu W nu H,Bu W Y H,Fx W Y H];let⟨a1,a2,l1,l2,ea,f1,f2⟩:=f (t-r) (rest-r) l pu (λx h=>(hF x h).1) λx h=>(hB x h).1
     let⟨b1,b2,m1,m2,I,g1,g2⟩:=f t rest l ep (λx h=>(hF x h).2) λx h=>(hB x h).2
     constructor
     .rw[f1,f2,<-(Z a2 l2).1];exact wC _ (by rw[l1,l2]) ea
     .rw[g1,g2,<-(Z b2 m2).2];exact wC _ (by rw[m1,m2]) I
end
section
variable{ls:L4}{ps:N1}{gs:L5}{hs:L1}
theorem DM:∀{is:L6} {t:Int},((is.take (iD gs is t).1).map λj=>gs.getD j 0).sum+(iD gs is t).2=t
 | [],t=>by show(0:Int)+t=t;lia
 | j::r,t=>by
  unfold iD;split
  .have:=DM (is:=r) (t:=t-gs.getD j 0);dsimp only;rw[List.take_succ_cons,v9,uz];lia
  .show(0:Int)+t=t;lia
def Bl(N:Sn ls ps gs hs){i:Nat}{h:Str}{xs:L8}(a:ps[i]?=some (h,.row xs)){t:Int}(d:0<=t)(p:t<gs.getD i 0):∃j,(bY ps (.row xs))[(iD gs (bY ps (.row xs)) t).1]?=some j/\0<=(iD gs (bY ps (.row xs)) t).2/\(iD gs (bY ps (.row xs)) t).2<gs.getD j 0/\
  ∀S,cp ls ps gs S i t = .tuple [.int ((iD gs (bY ps (.row xs)) t).1:Int),cp ls ps gs S j (iD gs (bY ps (.row xs)) t).2]:=by
 have n:=(vx.mp a).1;have W:=N.s.w;have e:bZ ps gs i=cu gs (bY ps (.row xs)) 0:=by unfold bZ;rw[a];rfl
 have o:gs.getD i 0=((bY ps (.row xs)).map λj=>gs.getD j 0).sum:=((N.s.ln i _ a).2 _ rfl).symm;have f:∀k∈bY ps (.row xs),1<=gs.getD k 0/\gs.getD k 0<=10^60:=λk g=>N.g (by have:=W.cq a g;lia)
 let⟨j,c,l,m⟩:=DY (gs:=gs) (is:=bY ps (.row xs)) d ⋯;refine⟨j,c,l,m,λS=>?_⟩;have z:t-0=t:=⋯
 have s:=X5 (gs:=gs) (cp ls ps gs S) (b:=0) (t:=t) f d (by rw[z];lia) j (by rw[z];exact c);rw[z]at s;rw[kR W a,e];unfold iJ;rw[s.1,s.2];rfl
def WW(N:Sn ls ps gs hs){i:Nat}{u x:Str}{k:Int}(a:ps[i]?=some (u,.again k x)){t:Int}(b:0<=t)(E:t<gs.getD i 0):∃j,bY ps (.again k x)=[j]/\gs.getD i 0=k*gs.getD j 0/\j<i/\1<=gs.getD j 0/\
  ∀F:Nat->Int->PyData,((cU gs t (bZ ps gs i)).map λy=>y.2.2.1).sum=t/gs.getD j 0/\((cU gs t (bZ ps gs i)).map (dg F)).getLast?=some (F j (t%gs.getD j 0)):=by
 have B:=(vx.mp a).1;have W:=N.s.w;obtain⟨j,g⟩:∃j,bY ps (.again k x)=[j]:=⟨_,rfl⟩
 have n:j<i:=W.cq a (j:=j) (by simp_all);have m:k*gs.getD j 0=gs.getD i 0:=(N.s.ln i _ a).2 _ ⟨gs.getD j 0,by simp_all,rfl⟩;let⟨d,l⟩:=N.g (show j<⇑ps by lia);have f:bZ ps gs i=(j,1,0)::(if 1<k then[(j,k-1,gs.getD j 0)]else[]):=by unfold bZ;rw[a];show dt gs (.again k x) (bY ps (.again k x))=_;rw[g];rfl
 refine⟨j,g,m.symm,n,d,λF=>?_⟩;have D:t/gs.getD j 0<k:=Int.ediv_lt_of_lt_mul ⋯ ⋯;have A:=Int.emod_add_mul_ediv t (gs.getD j 0);have w:gs.getD j 0*(t/gs.getD j 0)=t/gs.getD j 0*gs.getD j 0:=Int.mul_comm ..;by_cases c:gs.getD j 0<=t
 .have z:1<=t/gs.getD j 0:=by
   have:=Int.ediv_le_ediv (show 0<gs.getD j 0 by lia) c;rw[Int.ediv_self ⋯]at this;exact this
  have p:1<k:=⋯
  have h:(t-gs.getD j 0)/gs.getD j 0=t/gs.getD j 0-1:=by
   have:=Int.add_mul_ediv_right t (-1) (show gs.getD j 0≠0 by lia);rw[show t-gs.getD j 0=t + -1*gs.getD j 0 by lia,this];lia
  have o:ov gs t (j,k-1,gs.getD j 0)=t/gs.getD j 0-1:=by
   unfold ov;dsimp only;rw[h,vc ⋯]
  have r:t-gs.getD j 0-(t/gs.getD j 0-1)*gs.getD j 0=t%gs.getD j 0:=by
   rw[Int.sub_mul,Int.one_mul];lia
  have e:cU gs t (bZ ps gs i)=[(j,0,1,none),(j,gs.getD j 0,t/gs.getD j 0-1,some (t%gs.getD j 0))]:=by
   rw[f,vd p];show((j,1,0)::[(j,k-1,gs.getD j 0)]).filterMap (cm gs t)=_;have v:cm gs t (j,k-1,gs.getD j 0)=some (j,gs.getD j 0,t/gs.getD j 0-1,some (t%gs.getD j 0)):=by
    unfold cm;rw[vd (show((j,k-1,gs.getD j 0):Pc).2.2<=t from c),o,vd (show t/gs.getD j 0-1<((j,k-1,gs.getD j 0):Pc).2.1 by show _<k-1;lia)];dsimp only;rw[r]
   rw[filterMap_cons,qZ d b,Int.sub_zero,vd c,filterMap_cons,v];rfl
  rw[e];refine⟨?_,rfl⟩;show(1:Int)+((t/gs.getD j 0-1)+0)=_;lia
 .have e:cU gs t (bZ ps gs i)=[(j,0,0,some t)]:=by
   rw[f];have s:cU gs t (if 1<k then[(j,k-1,gs.getD j 0)]else[])=[]:=Wi λq C=>by
    simp_all
   show((j,1,0)::(if 1<k then[(j,k-1,gs.getD j 0)]else[])).filterMap (cm gs t)=_;rw[filterMap_cons,qZ d b,Int.sub_zero,vc c];show _::cU gs t _=_;rw[s]
  rw[e,Int.ediv_eq_zero_of_lt b ⋯,Int.emod_eq_of_lt b ⋯];exact⟨rfl,rfl⟩
def Wg(N:Sn ls ps gs hs){i:Nat}{g x:Str}{k:Int}(b:ps[i]?=some (g,.again k x)){t:Int}(h:0<=t)(l:t<gs.getD i 0):∃j,bY ps (.again k x)=[j]/\gs.getD i 0=k*gs.getD j 0/\j<i/\1<=gs.getD j 0/\
  ∀S,cp ls ps gs S i t = .tuple [.int (t/gs.getD j 0),cp ls ps gs S j (t%gs.getD j 0)]:=by
 let⟨j,c,d,e,f,a⟩:=WW N b h l;refine⟨j,c,d,e,f,λS=>?_⟩;rw[ZI N.s.w b];unfold iJ;rw[(a (cp ls ps gs S)).1,(a (cp ls ps gs S)).2];rfl
theorem BO{t:Int}(b:0<=t):∀is:L6,(∀j∈is,1<=gs.getD j 0)->(cU gs t (is.map λj=>(j,1,0)))=is.map λj=>if gs.getD j 0<=t then(j,0,1,none)else(j,0,0,some t)
 | [],_=>rfl
 | a::r,h=>by
  show((a,1,0)::r.map λj=>(j,1,0)).filterMap (cm gs t)=_;rw[filterMap_cons,qZ (h a vq) b,Int.sub_zero];show _::cU gs t (r.map λj=>(j,1,0))=_;rw[BO b r λj c=>h j (vp _ c)];rfl
def xA(N:Sn ls ps gs hs){i:Nat}{d:Str}{xs:L8}(a:ps[i]?=some (d,.side xs)){t:Int}(e:0<=t)(S:L5):cp ls ps gs S i t = .tuple ((bY ps (.side xs)).map λj=>if gs.getD j 0<=t then .none else cp ls ps gs S j t):=by
 have f:=(vx.mp a).1;have W:=N.s.w;have c:bZ ps gs i=(bY ps (.side xs)).map λj=>(j,1,0):=by unfold bZ;rw[a];rfl
 rw[Yf W a,c,BO e _ λj b=>(N.g (by have:=W.cq a b;lia)).1,v6];congr 1;refine map_congr_left λj b=>?_
 show dg (cp ls ps gs S) (if gs.getD j 0<=t then(j,0,1,none)else(j,0,0,some t))=_;split<;>rfl
theorem CL:∀(l:L5),l≠[]->∃x∈l,∀y∈l,y<=x
 | [],h=>uf rfl h
 | [x],_=>⟨x,vq,λy d=>by rw[vo.mp d];exact vA _⟩
 | x::y::r,_=>by
  let⟨m,b,h⟩:=CL (y::r) (λz=>nomatch z);by_cases c:m<=x
  .exact⟨x,vq,λz a=>by
    rcases mem_cons.mp a with rfl | a
    .exact vA _
    .exact Int.le_trans (h z a) c⟩
  .exact⟨m,vp _ b,λz a=>by
    rcases mem_cons.mp a with rfl | a
    .lia
    .exact h z a⟩
def B9(N:Sn ls ps gs hs){i:Nat}(hi:i<⇑ps){t:Int}{S:L5}:∃ds,cp ls ps gs S i t = .tuple ds:=by
 have W:=N.s.w;cases e:ps[i]? with
 | none=>rw[vz hi]at e;cases e
 | some p=>
  let⟨a,f⟩:=p;cases f with
  | hold n=>exact⟨_,ZJ e⟩
  | ring x n=>exact⟨_,ZK e⟩
  | rise x v n=>exact⟨_,ZL e⟩
  | row xs=>exact⟨_,kR W e⟩
  | again k x=>exact⟨_,ZI W e⟩
  | side xs=>exact⟨_,Yf W e⟩
end
def Lf(C:Nat->Int->Int->Prop)(ht S:L5)(ls:L4)(ps:N1)(gs:L5)(i:Nat)(t:Int):Prop:=
 ∀(j:Nat) (r:Int) (nm x:Str) (v n:Int),(j,r)∈reach ps gs i t->r<gs.getD j 0->ps[j]?=some (nm,.rise x v n)->C (cn (bF ls) x) (S.getD (cn (bF ls) x) 0) r/\(0<=S.getD (cn (bF ls) x) 0/\S.getD (cn (bF ls) x) 0<=10^18)/\ht.getD (cn (bF ls) x) 0=Rp.ramp (S.getD (cn (bF ls) x) 0) v n r
def g7(H:Hp)(cl:Addr)(C:Nat->Int->Int->Prop)(n:Nat):Prop:=∃(cas:L7) (cs:List (Nat×Int×Int)),H cl=some (.lst (cas.map V.ref))/\bL (λa (c:Nat×Int×Int)=>H a=some (.tup [.int (c.1:Nat),.int c.2.1,.int c.2.2])) cas cs/\(∀c∈cs,C c.1 c.2.1 c.2.2)/\⇑cas<=n
def g7.le{H:Hp}{b:Addr}{C:Nat->Int->Int->Prop}{n m:Nat}(h:g7 H b C n)(k:n<=m):g7 H b C m:=by
 let⟨a,c,d,e,f,g⟩:=h;exact⟨a,c,d,e,f,vW g k⟩
def g7.same{H H':Hp}{d:Addr}{C:Nat->Int->Int->Prop}{n:Nat}(h:g7 H d C n)(s:bI H H'):g7 H' d C n:=by
 let⟨b,f,g,i,j,k⟩:=h;exact⟨b,f,s _ _ g,bL.mono i λa c e=>s _ _ e,j,k⟩
structure mz(H:Hp)(bx l f gl hl cl:Addr)(las das:L7)(ls:L4)(ks:List Dm)(gs:L5)(hs:L1)(ht:L5):Prop where
 b:fX H bx l f las das ls ks
 x:iE ls ks
 N:Sn ls (cK ls ks) gs hs
 g:H gl=some (.lst (gs.map V.int))
 h:H hl=some (.lst (ht.map V.int))
 hn:⇑ht=⇑ls
 n1:l≠cl
 n2:f≠cl
 n3:gl≠cl
 n4:hl≠cl
def mz.but{H H':Hp}{e l f g h d:Addr}{b a:L7}{ls:L4}{ks:List Dm}{gs:L5}{i:L1}{j:L5}{xs:N2}(A:mz H e l f g h d b a ls ks gs i j)(m:H d=some (.lst xs))(k:∀c u,c≠d->H c=some u->H' c=some u):mz H' e l f g h d b a ls ks gs i j:=
 ⟨A.b.but m A.n1 A.n2 k,A.x,A.N,k _ _ A.n3 A.g,k _ _ A.n4 A.h,A.hn,A.n1,A.n2,A.n3,A.n4⟩
def oe(H:Hp)(cl:Addr)(C:Nat->Int->Int->Prop)(n:Nat)(t:Int)(Q:VK):Prop:=∀H',(∀c u,c≠cl->H c=some u->H' c=some u)->g7 H' cl C n->Q (.int t) H'
inductive fU(vs:N2)(H:Hp)(Q:VK)(xk:XK):Prop
 | mk (bx l f gl hl cl a las das ls ks) (gs:L5) (hs ht S C k i t v d):vs=[.ref a,v,.ref hl,.ref cl]->mz H bx l f gl hl cl las das ls ks gs hs ht->g7 H cl C k->ks[i]?=some d->g5 H a (gD d)->((∀js,d≠.row js)/\(∀js,d≠.side js)/\∀k j,d≠.again k j)->0<=t->t<gs.getD i 0->g8 H v (cp ls (cK ls ks) gs S i t)->Lf C ht S ls (cK ls ks) gs i t->k<6000->oe H cl C (k+1) t Q->fU vs H Q xk
inductive iz(n:Nat)(vs:N2)(H:Hp)(Q:VK)(xk:XK):Prop
 | mk (bx l f gl hl cl b las das ls ks) (gs:L5) (hs ht S C k i t v) (js:L6):vs=[.ref bx,.ref gl,.ref b,v,.ref hl,.ref cl]->mz H bx l f gl hl cl las das ls ks gs hs ht->g7 H cl C k->H b=some (.tup (js.map vN))->ks[i]?=some (.side js)->i<=n->0<=t->t<gs.getD i 0->g8 H v (cp ls (cK ls ks) gs S i t)->Lf C ht S ls (cK ls ks) gs i t->k+⇑(reach (cK ls ks) gs i t)<=6000->oe H cl C (k+⇑(reach (cK ls ks) gs i t)) t Q->iz n vs H Q xk
inductive dn(n:Nat)(vs:N2)(H:Hp)(Q:VK)(xk:XK):Prop
 | mk (bx l f gl hl cl las das ls) (ks:List Dm) (gs:L5) (hs ht S C k i t v):vs=[.ref bx,.ref gl,.int (i:Nat),v,.ref hl,.ref cl]->mz H bx l f gl hl cl las das ls ks gs hs ht->g7 H cl C k->i<⇑ks->i<n->0<=t->t<gs.getD i 0->g8 H v (cp ls (cK ls ks) gs S i t)->Lf C ht S ls (cK ls ks) gs i t->k+⇑(reach (cK ls ks) gs i t)<=6000->oe H cl C (k+⇑(reach (cK ls ks) gs i t)) t Q->dn n vs H Q xk
def Bf{vs:N2}{H:Hp}{Q:VK}{E:XK}:¬dn 0 vs H Q E:=λz=>by
 rcases z with⟨_,_,_,_,_,_,_,_,_,_,_,_,_,_,_,_,_,_,_,_,_,_,_,h,_⟩
 exact uf h (Nat.not_lt_zero _)
def g8.rh{H:Hp}{a:Addr}{xs:N2}{ds:List PyData}(h:g8 H (.ref a) (.tuple ds))(e:H a=some (.tup xs)){m:Nat}{x:V}{d:PyData}(i:xs[m]?=some x)(g:ds[m]?=some d):g8 H x d:=λc k=>by
 cases h c k with
 | tup e' r=>
  rw[k _ _ e]at e';cases e';let⟨v,b,f⟩:=Xh r g;rw[i]at b;cases b;exact f
def g8.tup{H:Hp}{v:V}{ds:List PyData}(h:g8 H v (.tuple ds)):∃a xs,v = .ref a/\H a=some (.tup xs)/\⇑xs=⇑ds:=by
 cases h H λq q e=>e with
 | tup e r=>exact⟨_,_,rfl,e,wP r⟩
def g8.cE{H:Hp}{v:V}(h:g8 H v .none):v = .cE:=by
 cases h H λq q e=>e with
 | cE=>rfl
def g8.int{H:Hp}{v:V}{i:Int}(h:g8 H v (.int i)):v = .int i:=by
 cases h H λq q e=>e with
 | int=>rfl
def LD{H:Hp}:∀{n:Nat} {d:PyData},j0 n d->∀{v:V},DV H v d->g8 H v d:=by
 intro n
 induction n with
 | zero=>
  intro d p v h a k;cases p with
  | int=>cases h;exact .int _
  | cE=>cases h;exact .cE
 | succ n ih=>
  intro d p v h a k;cases p with
  | int=>cases h;exact .int _
  | cE=>cases h;exact .cE
  | tup _ ds l pd=>
   cases h with
   | tup e r=>
    refine .tup (k _ _ e) (CA (wP r).symm λm x i g c=>?_);let⟨y,b,f⟩:=Xh r c;rw[g]at b;cases b;exact ih (pd _ (vm c)) f a k
section
variable{ls:L4}{ps:N1}{gs:L5}{hs:L1}{E:L0}
noncomputable def F0(a:Nat)(b:Int):PyData:=.tuple [.int a,.int b]
def Ba{Y:List mF}{j:Nat}{r:Int}(h:(Y.map (dg F0)).getLast?=some (F0 j r)):(j,r)∈Y.flatMap (df gs):=by
 let⟨y,a,e⟩:=vK.mp (List.mem_of_getLast? h);refine mem_flatMap.mpr ⟨y,a,?_⟩;unfold dg at e;unfold df;refine mem_append_right _ ?_;split at e
 .rename_i r' er
  try rw[er]
  injection e with e;injection e with e1 e;injection e with e2 e;injection e1 with e1;injection e2 with e2;refine vo.mpr ?_;rw[e2,Int.ofNat.inj e1]
 .cases e
def LK(N:Sn ls ps gs hs){i:Nat}{g:Str}{xs:L8}(a:ps[i]?=some (g,.row xs)){t:Int}(h:0<=t)(n:t<gs.getD i 0){j:Nat}(e:(bY ps (.row xs))[(iD gs (bY ps (.row xs)) t).1]?=some j):(j,(iD gs (bY ps (.row xs)) t).2)∈du gs t (bZ ps gs i):=by
 have l:=(vx.mp a).1;have W:=N.s.w;have c:bZ ps gs i=cu gs (bY ps (.row xs)) 0:=by unfold bZ;rw[a];rfl
 have m:gs.getD i 0=((bY ps (.row xs)).map λj=>gs.getD j 0).sum:=((N.s.ln i _ a).2 _ rfl).symm;have d:∀k∈bY ps (.row xs),1<=gs.getD k 0/\gs.getD k 0<=10^60:=λk f=>N.g (by have:=W.cq a f;lia)
 have z:t-0=t:=⋯
 have s:=X5 (gs:=gs) F0 (b:=0) (t:=t) d h (by rw[z];lia) j (by rw[z];exact e);rw[z]at s;rw[c];exact Ba s.2
def GA(N:Sn ls ps gs hs){i:Nat}{c x:Str}{k:Int}(b:ps[i]?=some (c,.again k x)){t:Int}(d:0<=t)(f:t<gs.getD i 0){j:Nat}(a:bY ps (.again k x)=[j]):(j,t%gs.getD j 0)∈du gs t (bZ ps gs i):=by
 let⟨g,e,q,q,q,h⟩:=WW N b d f;rw[a]at e;cases e;exact Ba (h F0).2
theorem CI{b c:Type}{f:b->List c}{x:b}:∀{l:List b},x∈l->⇑(f x)<=⇑(l.flatMap f)
 | a::r,h=>by
  rw[flatMap_cons,vn];rcases mem_cons.mp h with rfl | h
  .lia
  .have:=CI (f:=f) h;lia
def Wl(W:dC ls ps){i:Nat}{t:Int}{x:Nat×Int}(h:x∈du gs t (bZ ps gs i))(c:¬gs.getD i 0<=t):(∀y∈reach ps gs x.1 x.2,y∈reach ps gs i t)/\⇑(reach ps gs x.1 x.2)<=⇑(reach ps gs i t):=by
 have b:¬(gs.getD i 0<=t\/bZ ps gs i=[]):=λz=>z.elim c λe=>by rw[e]at h;exact nomatch h
 rw[Jv W b];exact⟨λy a=>mem_flatMap.mpr ⟨x,h,a⟩,CI (f:=λx=>reach ps gs x.1 x.2) h⟩
def Lf.rh{C:Nat->Int->Int->Prop}{c S:L5}{i j:Nat}{t r:Int}(h:Lf C c S ls ps gs i t)(k:∀y∈reach ps gs j r,y∈reach ps gs i t):Lf C c S ls ps gs j r:=
 λa b f x v n m e d=>h a b f x v n (k _ m) e d
def IL(N:Sn ls ps gs hs){i:Nat}{l:Str}{xs:L8}(b:ps[i]?=some (l,.side xs)){t:Int}(o:0<=t)(r:t<gs.getD i 0):(∀j∈bY ps (.side xs),¬gs.getD j 0<=t->∀y∈reach ps gs j t,y∈reach ps gs i t)/\⇑(reach ps gs i t)=((bY ps (.side xs)).map λj=>if gs.getD j 0<=t then 1 else(reach ps gs j t).length).sum/\∃j∈bY ps (.side xs),¬gs.getD j 0<=t:=by
 have W:=N.s.w;have q:=(vx.mp b).1;have c:bZ ps gs i=(bY ps (.side xs)).map λj=>(j,1,0):=by unfold bZ;rw[b];rfl
 have d:du gs t (bZ ps gs i)=(bY ps (.side xs)).map λj=>if gs.getD j 0<=t then(j,gs.getD j 0)else(j,t):=by
  rw[c];exact Wt (λj a=>(N.g (by have:=W.cq b a;lia)).1) o
 have k:(bY ps (.side xs)).map (λj=>gs.getD j 0)≠[]:=(N.s.ln i _ b).1;let⟨m,f,h⟩:=CL _ k;have p:=(N.s.ln i _ b).2 m ⟨f,h⟩;let⟨j,a,rfl⟩:=vK.mp f;refine⟨λj a g=>(Wl W (x:=(j,t)) (by rw[d];exact vK.mpr ⟨j,a,by rw[vc g]⟩) ⋯).1,?_,j,a,⋯⟩;have n:¬(gs.getD i 0<=t\/bZ ps gs i=[]):=λz=>z.elim ⋯ λe=>by
  rw[c]at e
  simp_all
 rw[Jv W n,d,List.flatMap_map,List.length_flatMap];congr 1;refine map_congr_left λj Z=>?_
 split
 .rw[j4 (.inl (vA _))];rfl
 .rfl
def CH{i:Nat}{t:Int}(h:bZ ps gs i=[]):reach ps gs i t=[(i,t)]:=j4 (.inr h)
def G4(g:Nat->Nat)(a:L6)(u:Nat):((a.take u).map g).sum<=(a.map g).sum:=by
 have e:=congrArg (λl=>(l.map g).sum) (List.take_append_drop u a);rw[vj,sum_append]at e;lia
theorem Bq{B:Int}:∀{es:Np} {h:L5},(∀q∈es,0<=q.2/\q.2<=B)->(∀x∈h,0<=x/\x<=B)->∀x∈dj es h,0<=x/\x<=B
 | [],_,_,k=>k
 | q::r,h,e,k=>by
  rw[QR];refine Bq (λy b=>e y (vp _ b)) λx a=>?_
  rcases List.mem_or_eq_of_mem_set a with z | rfl
  .exact k x z
  .exact e q vq
def IQ(A:lN ls ps gs hs E){t:Int}:∀x∈eI ls ps gs E t,0<=x/\x<=10^18:=by
 have N:=A.N;have e:=N.ne;have c:∀(l:L3) (h:L5),(∀x∈l,x.1<⇑ps)->(∀x∈h,0<=x/\x<=10^18)->∀x∈l.foldl (λh x=>dj (E.getD x.1 []) h) h,0<=x/\x<=10^18:=λl=>by
  induction l with
  | nil=>exact λh j k=>k
  | cons y r ih=>
   intro h b k;rw[v7];exact ih _ (λx a=>b x (vp _ a)) (Bq (Dk N A.l A.o (b y vq)) k)
 refine c _ _ (λx a=>Yk N.s.w ⋯ (vP.mp a).1) λx a=>?_
 let⟨q,d,rfl⟩:=vK.mp a;exact N.uD q d
def AZ(ls:L4)(ps:N1)(gs:L5)(E:L0)(T:Int)(k:Nat)(s r:Int):Prop:=0<=r/\r<=T/\k<⇑ls/\(cH ls ps gs E (T-r)).getD k 0=s
def IG(A:lN ls ps gs hs E){T:Int}(k:0<=T):Lf (AZ ls ps gs E T) (cH ls ps gs E T) (eI ls ps gs E T) ls ps gs (⇑ps-1) T:=by
 intro j r o x v n m f a;have l:=A.N.ne;have b:cn (bF ls) x<⇑ls:=by
  let⟨q,e⟩:=A.N.s.w.r j _ x v n a;have:=Xp (vm e);unfold bF at this;rw[vt]at this;exact this
 let⟨g,i,h⟩:=D5 A (show ⇑ps-1<⇑ps by lia) k m f a rfl b;let⟨c,d⟩:=h (ls.map (·.2)) (vt _);refine⟨⟨g,i,b,c⟩,?_,d⟩;have p:⇑(eI ls ps gs E T)=⇑ls:=by
  show(dJ ps gs E (⇑ps-1) T (ls.map (·.2))).length=_;rw[BQ,vt]
 exact IQ A _ (by rw[vy,vz ⋯];exact getElem_mem _)
end
def g8.one{H:Hp}{v:V}{i:Int}(h:g8 H v (.tuple [.int i])):∃p,v = .ref p/\H p=some (.tup [.int i]):=by
 let⟨a,b,rfl,e,l⟩:=h.tup
 match b,l with
 | [x],_=>
  have:=(h.rh e (m:=0) rfl rfl).int;subst this;exact⟨a,rfl,e⟩
def g8.two{H:Hp}{v:V}{i:Int}{d:PyData}(h:g8 H v (.tuple [.int i,d])):∃p y,v = .ref p/\H p=some (.tup [.int i,y])/\g8 H y d:=by
 let⟨a,b,rfl,e,l⟩:=h.tup
 match b,l with
 | [x,y],_=>
  have:=(h.rh e (m:=0) rfl rfl).int;subst this;exact⟨a,y,rfl,e,h.rh e (m:=1) rfl rfl⟩
inductive gH(CM CS:Addr)(vs:N2)(H:Hp)(Q:VK)(xk:XK):Prop
 | mk (m st b pl pp bx l f gl z las pas lbs das ls) (ps:N1) (ks:List Dm) (gs gq:L5) (hs hq E t):vs=[.ref m,.ref b,.ref bx,.ref gl,.int t]->hJ CM CS H m st z ls (cK ls ks) gq E t->fX H bx l f lbs das ls ks->rP ls ks gq hq E->H gl=some (.lst (gq.map V.int))->cx H b pl pp las pas ls ps->Sn ls ps gs hs->gq.getD (⇑ks-1) 0=gs.getD (⇑ps-1) 0->0<=t->t<=gs.getD (⇑ps-1) 0->(∀(t:Int) (F:L0),⇑F=⇑ps->cP ls ps F->cH ls (cK ls ks) gq E t=cH ls ps gs F t)->(∀H',bI H H'->Q (.bl true) H')->gH CM CS vs H Q xk
def Hk{ls:L4}{ps:N1}{gs:L5}{g:L1}{S:L5}(N:Sn ls ps gs g){i:Nat}(hi:i<⇑ps){t:Int}(b:0<=t)(d:t<gs.getD i 0):∃x r,cp ls ps gs S i t = .tuple (x::r):=by
 cases e:ps[i]? with
 | none=>rw[vz hi]at e;cases e
 | some p=>
  let⟨h,f⟩:=p;cases f with
  | hold n=>exact⟨_,_,ZJ e⟩
  | ring x n=>exact⟨_,_,ZK e⟩
  | rise x v n=>exact⟨_,_,ZL e⟩
  | row xs=>
   let⟨j,Z,Z,Z,q⟩:=Bl N e b d;exact⟨_,_,q S⟩
  | again k x=>
   let⟨j,Z,Z,Z,Z,q⟩:=Wg N e b d;exact⟨_,_,q S⟩
  | side xs=>
   have c:(bY ps (.side xs)).map (λj=>gs.getD j 0)≠[]:=(N.s.ln i _ e).1;rw[xA N e b];cases eq:bY ps (.side xs)with
   | nil=>rw[eq]at c;exact uf rfl c
   | cons a r=>exact⟨_,_,rfl⟩
def X4{ls:L4}{ps:N1}{qs:L5}(W:dC ls ps):∀{i:Nat} {t:Int},⇑(reach ps qs i t)<=nodes ps qs i t:=by
 intro i
 induction i using Nat.strongRecOn with
 | ind i ih=>
  intro t;by_cases h:qs.getD i 0<=t\/bZ ps qs i=[]
  .rw[j4 h,ye h];exact vb _
  .rw[Jv W h,Y6 W h,List.length_flatMap];have:=AA (l:=du qs t (bZ ps qs i)) (f:=λx=>⇑(reach ps qs x.1 x.2)) (g:=λx=>nodes ps qs x.1 x.2) λx a=>ih x.1 (QD W a)
   lia
def EJ{ls:L4}{ps:N1}{qs:L5}{a:L1}(N:Sn ls ps qs a){i:Nat}{t:Int}(hi:i<⇑ps)(c:0<=t):⇑(reach ps qs i t)<=5000:=by
 have b:∀i,i<⇑ps->⇑(a.getD i [])<=8:=λi hi=>BY N.s.w N.hl N.m (YV N.s N.hl hi)
 have:=X4 (qs:=qs) N.s.w (i:=i) (t:=t);have:=N.nodes b hi c;lia
end Rm
namespace L2
inductive dH(a0 a1:Prop):Prop | mk:a0->a1->dH a0 a1
inductive i6(a0 a1 a2:Prop):Prop | mk:a0->a1->a2->i6 a0 a1 a2
inductive eE(a0 a1 a2 a3:Prop):Prop | mk:a0->a1->a2->a3->eE a0 a1 a2 a3
inductive m9(a0 a1 a2 a3 a4:Prop):Prop | mk:a0->a1->a2->a3->a4->m9 a0 a1 a2 a3 a4
inductive i7(a0 a1 a2 a3 a4 a5:Prop):Prop | mk:a0->a1->a2->a3->a4->a5->i7 a0 a1 a2 a3 a4 a5
inductive rQ(a0 a1 a2 a3 a4 a5 a6:Prop):Prop | mk:a0->a1->a2->a3->a4->a5->a6->rQ a0 a1 a2 a3 a4 a5 a6
inductive rR(a0 a1 a2 a3 a4 a5 a6 a7 a8:Prop):Prop | mk:a0->a1->a2->a3->a4->a5->a6->a7->a8->rR a0 a1 a2 a3 a4 a5 a6 a7 a8
inductive m6(a0 a1 a2 a3 a4 a5 a6 a7 a8 a9:Prop):Prop | mk:a0->a1->a2->a3->a4->a5->a6->a7->a8->a9->m6 a0 a1 a2 a3 a4 a5 a6 a7 a8 a9
inductive oQ(a0 a1 a2 a3 a4 a5 a6 a7 a8 a9 a10 a11 a12 a13:Prop):Prop | mk:a0->a1->a2->a3->a4->a5->a6->a7->a8->a9->a10->a11->a12->a13->oQ a0 a1 a2 a3 a4 a5 a6 a7 a8 a9 a10 a11 a12 a13
inductive dQ{α0:Type}(p:α0->Prop):Prop | mk (x0) (h:p x0):dQ p
inductive fE{α0 α1:Type}(p:α0->α1->Prop):Prop | mk (x0 x1) (h:p x0 x1):fE p
inductive fZ{α0 α1 α2:Type}(p:α0->α1->α2->Prop):Prop | mk (x0 x1 x2) (h:p x0 x1 x2):fZ p
inductive i9{α0 α1 α2 α3:Type}(p:α0->α1->α2->α3->Prop):Prop | mk (x0 x1 x2 x3) (h:p x0 x1 x2 x3):i9 p
inductive pQ{α0 α1 α2 α3 α4:Type}(p:α0->α1->α2->α3->α4->Prop):Prop | mk (x0 x1 x2 x3 x4) (h:p x0 x1 x2 x3 x4):pQ p
inductive oj{α0 α1 α2 α3 α4 α5:Type}(p:α0->α1->α2->α3->α4->α5->Prop):Prop | mk (x0 x1 x2 x3 x4 x5) (h:p x0 x1 x2 x3 x4 x5):oj p
inductive rS{α0 α1 α2 α3 α4 α5 α6:Type}(p:α0->α1->α2->α3->α4->α5->α6->Prop):Prop | mk (x0 x1 x2 x3 x4 x5 x6) (h:p x0 x1 x2 x3 x4 x5 x6):rS p
inductive om{α0 α1 α2 α3 α4 α5 α6 α7:Type}(p:α0->α1->α2->α3->α4->α5->α6->α7->Prop):Prop | mk (x0 x1 x2 x3 x4 x5 x6 x7) (h:p x0 x1 x2 x3 x4 x5 x6 x7):om p
inductive rT{α0 α1 α2 α3 α4 α5 α6 α7 α8:Type}(p:α0->α1->α2->α3->α4->α5->α6->α7->α8->Prop):Prop | mk (x0 x1 x2 x3 x4 x5 x6 x7 x8) (h:p x0 x1 x2 x3 x4 x5 x6 x7 x8):rT p
inductive oR{α0 α1 α2 α3 α4 α5 α6 α7 α8 α9:Type}(p:α0->α1->α2->α3->α4->α5->α6->α7->α8->α9->Prop):Prop | mk (x0 x1 x2 x3 x4 x5 x6 x7 x8 x9) (h:p x0 x1 x2 x3 x4 x5 x6 x7 x8 x9):oR p
end L2
def L2.cT(a:sc.kind = .function:=by rfl)(b:sc.isCoroutine=false:=by rfl)(c:sc.isGenerator=false:=by rfl)(d:N.Nodup:=by trivial)(e:N.take ⇑P=P:=by rfl)(f:∀x∈P,sc.names.lookup x=some .local\/sc.names.lookup x=some .cell:=by trivial)(g:∀y∈sc.names,y.2≠.free:=by trivial):L2.bJ N P sc:=⟨a,b,c,d,e,f,g⟩
structure PySem.W.Fast:Prop where
  (tw4275615482393839702 tw16515003924283455444 tw6919139448983825649 tw8439795354928226905 tw4487968761517064339 tw13415555767148463494 tw14814190222164951610 tw3788171540967956765 tw5575576003147511117 tw7555041250892708229 tw6632982903295468275 tw5502526128808756467 tw1865977479520363605 tw6060255229918767554 tw601590382205917188 tw9989740603072890019 tw8189515608210105646 tw14503475152125113444 tw2626373979319020769 tw1219886140130511720 tw139030954326312404 tw11543788938732516122 tw4164972797317005469 tw3019292614059433719 tw5699448112260162227 tw1623405961141371332 tw3062676266872118086 tw12787424033453334023 tw5873918984322826580 tw775161393823973732 tw5467621061318670426 tw14474377366101661723 tw2541936815960274553 tw11191067262269510430 tw18031306599884710817 tw18019757288285954850 tw13357743584866719700 tw11431775307611089001 tw15929562985931541654 tw12320548324146028735 tw4508114186620964821 tw15740625695838906799 tw7225883198385103158 tw15295387948716752803 tw13713794719297650736 tw15725363532782313282 tw30672724740496689 tw16595167846337685335 tw10345322741906685687 tw12658728298243935931 tw6593866640322673481 tw5398770677705406102 tw18001614163878576229 tw11492446068230746857 tw1725810430307812212 tw15409770112865163083 tw6366975018345910634 tw16423459524245917465 tw10135465265273721174 tw1102520203372660885 tw18337346899799703826 tw4516150495339358142 tw8514552075749179700 tw10846813864065027130 tw12363128969872637450 tw6879134677725825339 tw4495971993346861759 tw1572185855463889429 tw672054049964649804 tw3757164216466202727 tw10932019121561266310 tw18009920437507260501 tw16716617845786505166 tw867196294866249194 tw12337752257114500811 tw11456222553746950 tw16074951538030751679 tw5120446145431402223 tw3453227381874825618 tw2092778707299480003 tw4324162406636847158 tw3450739861619666261 tw6922972508992969227 tw4164039899479546709 tw4710749956451015748 tw9435702403481746716 tw813747601629853204 tw6544268414589658440 tw17572887591269043828 tw10352487071150215254 tw5447994190522515876 tw15187616273220185243 tw16981483705302846344 tw446904238339147344 tw3860128265886352437 tw7401855630890799711 tw11293604535310139785 tw418391839879724622 tw7216769993900256580 tw11983097602775601035 tw2452417873942041606 tw10909247035282291029 tw7349350542701677361 tw899871370415523330 tw10725464532520016150 tw8065656424072739907 tw3942227089507693718 tw17294083188891244384 tw2926491976363237742 tw13035052776987834427 tw12766544055060104600 tw5421103521634443369 tw200254741997243283 tw9534979594924789667 tw3850485692255129789 tw16862781510136047986 tw12910001425541241209 tw7815386589026971472 tw11732525198042130561 tw11043587087964005533 tw6033584633852089684 tw10262156128684088584 tw12121645624594152506 tw16937105555446161947 tw13840974765824240416 tw7172709615149572365 tw10722572919328545729 tw3393851293265892618 tw814318520133965413 tw7650974645023469589 tw16146673514269586439 tw4232001398343904765 tw7762264643047849847 tw8958108791586112353 tw14638073876731520570 tw16464115742783088490 tw11533833634014284774 tw10969710102195319359 tw4831172371885008470 tw11808911632337594536 tw11124608619699198653 tw13654306482189914137 tw8027032522783855246 tw2827260384050241155 tw2068305430432407264 tw10679114175640768810 tw315384979449074447 tw10785708871577857864 tw10907989150688521591 tw1357938960409780465 tw13312414320595884892 tw7058105411837421916 tw16398147196322778252 tw8746767708282225789 tw13110121660393833321 tw4303547637964195256 tw2202010721139031096 tw3971428224511281798 tw16855249313010088493 tw17888916260486619342 tw9163948833973168847 tw18267844248000476205 tw6835940438172527848 tw16213365944270818912 tw951063604078877029 tw16641832110602572686 tw14728827151634310629 tw9204480873649312277 tw3172658451949479393 tw2691804658390327374 tw7698953013811563193 tw17896188857139780023 tw9481837971320965247 tw10359170989230170143 tw5412052264101019919 tw10482241075462860370 tw15967801074234452682 tw4912685865974334844 tw17570856747362162676 tw6538730652748630256 tw6071528703081431005 tw13424419177918569553 tw8676699625750368930 tw18166729372877008248 tw14647786989784666375 tw17481197940615786374 tw10504301944282562994 tw15482723279262070671 tw11922726331260759719 tw11746583334645260262 tw18182543433376758240 tw9167666159762850018 tw16029502001417352076 tw12756685191905533585 tw10613443991037402353 tw3225218279267065256 tw10680833952239124055 tw2385487378072647850 tw5737835246758850595 tw6313870599761545761 tw7620523291738715753 tw16407822453786034057 tw9780247067987914116 tw7777621643356568265 tw14108863091125781971 tw11694994186147671555 tw8166516170324727694 tw3312824509748394008 tw12589985557146250816 tw16982132935415518933 tw10767320780630276985 tw388054156806245120 tw3578422172011990992 tw3785752154823172415 tw1225215819066776851 tw2443362256358421888 tw3829465218206531296 tw10782486326310839348 tw896009103332308090 tw15787444833506170209 tw5072536438446224790 tw14436875105641102898 tw8306807521914886897 tw13322861616917800884 tw2472328444193596045 tw7589433996732456966 tw9025217215453735814 tw16575687482181345001 tw7053685113093063617 tw17565644124395317625 tw16616959263280784938 tw9324947371479404521 tw11419083194834717334 tw10597945111865490293 tw17411875210792038422 tw17741746130685643038 tw9139739122309570137 tw11796564489008230335 tw13633892970071632110 tw12857992357723820651 tw17234764724163682754 tw14673718520009673225 tw4482524580143872116 tw1258707639040183981 tw6463015502891880426 tw729968313129923272 tw3494614796093557326 tw8361431515103556003 tw15754830528686569703 tw13910815674206936309 tw3889267807202931492 tw12738364001879798785 tw1911962611977126282 tw16487680721543709424 tw17067499354300531017 tw5477882222806386070 tw7845879799512306251 tw6586867791887231378 tw16617353850085817457 tw574685808266427538 tw2917459689435452040 tw4773459203976056106 tw11548435211167417003 tw6779494847942169073 tw621309868071963175 tw14061557953985172770 tw12261022336889417387 tw12010627653440715022 tw13794810086265905951 tw17222363549214048699 tw13781628588850519056 tw8686334365700701508 tw4633223920804583567 tw3514405189270371023 tw17016114968078804528 tw12653594551409618777 tw12646715190915856311:True)
namespace L2
open PySem PySem.Spec PyProof.Rows
structure dE(K:cg)(mg:Nw)(x:Str)(st:Stmt)(f:Addr)(d:FuncData)(ps:L8):Prop where
  F:eK K x x st f d
  m:mg x=↥f
  B:Binds K d ps []
def jq{X:Cx}{x:Str}{st:Stmt}{f:Addr}{d:FuncData}{ps:L8}{j k:Nat}{sp:Sp}{e:Expr}{es:Nt}{p a:Pos}{t:TA}(D:dE X.K X.mg x st f d ps)(F:eJ X.prog X.w X.K X.mg X.base oK j f d ps sp)(n:di k X.A)(g:PA X (e::es) t)(m:j<=k:=by decide)(l:Gl X x:=by rfl)(b:(x==("__debug__" : Str))=false:=by decide)(i:starEach (e::es) X.env=(false,eval e X.env)::starEach es X.env:=by rfl)(c:(backTo a (starEach es X.env)).any (·.1)=false:=by rfl):PE X (.Call (.Name x p) (e::es) [] a) (nN sp [] E0 t):=YJ (F.mono m) n l D.m D.F.kp D.B .nil c8 g b i c
end L2
set_option hygiene false
local macro_rules | `(tactic| rotate_right $n) => do
  let k:=n.getNat
  if k<100 then Lean.Macro.throwUnsupported
  let a<-`(some _)
  let b<-`(none)
  let xs:=Array.replicate (k/100) a++Array.replicate (k%100) b
  `(tactic| (refine L2.jB (S':=[$xs,*]) rfl ?_;try dsimp only[L2.eF,L2.Cx.lL]))
set_option hygiene true
local macro_rules | `(tactic| specialize $e) => do
  let i:=λ(k:String)=>Lean.mkIdent (Lean.Name.mkSimple k)
  `(tactic| (refine $e (fun $(i "vs") $(i "H") $(i "Q") $(i "E") $(i "h")=>?_) (fun $(i "cdv") $(i "A") $(i "outer") $(i "s") $(i "H") $(i "vs") $(i "Q") $(i "E") $(i "hr") $(i "h")=>?_);(focus cases $(i "h"):ident;subst_vars;rfl);have $(i "sz"):ident:(10000:Nat)<PySem.sizeLine:=by decide))
def Rm.bQ{b:Bool}{A B:Prop}(h:B)(e:b=false:=by trivial):if b=true then A else B:=Rm.dW e h
def Rm.cF{b:Bool}{A B:Prop}(h:A)(e:b=true:=by trivial):if b=true then A else B:=Rm.lA e h
namespace K40
noncomputable section
set_option hygiene false
local macro_rules | `($n <* $f $as*) => `(eJ P w K mg base oK $n $f $as*)
set_option hygiene true
open PySem L2 Rm
def top(i:Nat):Stmt:=PySem.Challenge.pw_camplay_k40_whole_pins_walked.main.body.getD i (.Pass ⟨0,0,0,0⟩)
abbrev X7:Stmt:=top 0
def ME:bJ ["k"] ["k"] (bG X7):=cT
abbrev yx:Stmt:=top 9
def QW:bJ ["named","numbers","number","one"] ["named"] (bG yx):=cT
abbrev kf:Stmt:=top 10
def Ek:bJ ["form"] ["form"] (bG kf):=cT
abbrev Zn:Stmt:=top 13
def Ec:bJ ["form","limbs","parts"] ["form","limbs","parts"] (bG Zn):=cT
abbrev Ai:Stmt:=top 14
def YL:bJ ["book","limbs","numbers","known","name","form"] ["book"] (bG Ai):=cT
abbrev KI:Stmt:=top 15
def yz:bJ ["forms","drum","needed","number","other"] ["forms","drum"] (bG KI):=cT
abbrev wo:Stmt:=top 16
def Q8:bJ ["book","found","forms","kept","limbs","anew","place","number"] ["book"] (bG wo):=cT
abbrev KJ:Stmt:=top 17
def yA:bJ ["number","name"] ["number"] (bG KJ):=cT
abbrev zu:Stmt:=top 18
def kj:bJ ["box","limbs","names"] ["box"] (bG zu):=cT
abbrev wp:Stmt:=top 20
def Yx:bJ ["book","numbers","found","name","form"] ["book"] (bG wp):=cT
abbrev Ah:Stmt:=top 21
def Zp:bJ ["book","limbs","found","part","inside","form","left","other"] ["book"] (bG Ah):=cT
abbrev wt:Stmt:=top 22
def Wo:bJ ["book","found","left"] ["book"] (bG wt):=cT
abbrev zq:Stmt:=top 23
def ZB:bJ ["row","moves","limbs","number","limb"] ["row","moves","limbs"] (bG zq):=cT
abbrev Yu:Stmt:=top 24
def Ed:bJ ["form","inside"] ["form","inside"] (bG Yu):=cT
abbrev ZO:Stmt:=top 25
def Qf:bJ ["book","moves","found","row","inside","form","length"] ["book"] (bG ZO):=cT
abbrev Aj:Stmt:=top 27
def II:bJ ["start","goal","beats","j"] ["start","goal","beats","j"] (bG Aj):=cT
abbrev Yv:Stmt:=top 29
def qr:bJ ["form","inside","sizes","part","later","found","begin"] ["form","inside","sizes"] (bG Yv):=cT
abbrev Zo:Stmt:=top 30
def Ee:bJ ["book","sizes"] ["book","sizes"] (bG Zo):=cT
abbrev kg:Stmt:=top 31
def qI:bJ ["pieces","sizes","gone","found","part","turns","begin","over","rest"] ["pieces","sizes","gone"] (bG kg):=cT
abbrev Wn:Stmt:=top 33
def zw:bJ ["pieces","sizes","gone","found","part","begin","over","rest"] ["pieces","sizes","gone"] (bG Wn):=cT
abbrev J1:Stmt:=(inClass (top 34) 0)
def kT:bJ ["self","book"] ["self","book"] (bG J1):=cT
abbrev Zy:Stmt:=(inClass (top 34) 1)
def JH:bJ ["self","beat","starts","playing","todo","now","limb","height"] ["self","beat"] (bG Zy):=cT
abbrev Qe:Stmt:=(inClass (top 34) 2)
def j9:bJ ["self","beat","scene","heights","part","gone","form","limb"] ["self","beat"] (bG Qe):=cT
abbrev QO:Stmt:=(inClass (top 34) 3)
def Mr:bJ ["self","beat"] ["self","beat"] (bG QO):=cT
abbrev X8:Stmt:=top 35
def GU:bJ ["book","beat"] ["book","beat"] (bG X8):=cT
abbrev ZP:Stmt:=top 37
def yB:bJ ["stage","starts","inside","part","gone","form","found","pins"] ["stage","starts","inside","part","gone"] (bG ZP):=cT
abbrev KK:Stmt:=top 38
def zT:bJ ["stage","beat","scene","found","part","gone"] ["stage","beat"] (bG KK):=cT
abbrev Qd:Stmt:=(inClass (top 39) 0)
def YS:bJ ["self","box"] ["self","box"] (bG Qd):=cT
abbrev zQ:Stmt:=(inClass (top 39) 1)
def My:bJ ["self"] ["self"] (bG zQ):=cT
abbrev zN:Stmt:=(inClass (top 39) 2)
def K8:bJ ["self","beat"] ["self","beat"] (bG zN):=cT
abbrev zM:Stmt:=(inClass (top 39) 3)
def K7:bJ ["self"] ["self"] (bG zM):=cT
abbrev Qz:Stmt:=(inClass (top 39) 4)
def kh:bJ ["self"] ["self"] (bG Qz):=cT
abbrev zP:Stmt:=(inClass (top 39) 5)
def wa:bJ ["self"] ["self"] (bG zP):=cT
abbrev zO:Stmt:=(inClass (top 39) 6)
def Mx:bJ ["self"] ["self"] (bG zO):=cT
abbrev zR:Stmt:=top 41
def wb:bJ ["_law_script","_law_k"] ["_law_script","_law_k"] (bG zR):=cT
abbrev yt:Stmt:=top 42
def WN:bJ ["_law_cell","_law_k"] ["_law_cell","_law_k"] (bG yt):=cT
abbrev yq:Stmt:=top 43
def YY:bJ ["_law_script","_law_j","_law_k","_law_first"] ["_law_script","_law_j","_law_k"] (bG yq):=cT
abbrev yw:Stmt:=top 44
def WO:bJ ["_law_found"] ["_law_found"] (bG yw):=cT
abbrev Yt:Stmt:=top 45
def Eb:bJ ["_law_place","_law_k"] ["_law_place","_law_k"] (bG Yt):=cT
abbrev zp:Stmt:=top 46
def JU:bJ ["_law_number","_law_names","_law_movers","_law_kind","_law_some","_law_used","_law_j","_law_at","_law_twice"] ["_law_number","_law_names","_law_movers","_law_kind"] (bG zp):=cT
abbrev Yn:Stmt:=top 47
def qR:bJ ["_law_number","_law_names","_law_movers","_law_limbs","_law_bounds","_law_kind","_law_more","_law_beats","_law_at"] ["_law_number","_law_names","_law_movers","_law_limbs","_law_bounds"] (bG Yn):=cT
abbrev Q7:Stmt:=top 48
def Ea:bJ ["_law_form_here","_law_known_here"] ["_law_form_here","_law_known_here"] (bG Q7):=cT
abbrev yu:Stmt:=top 49
def JT:bJ ["_law_form_here","_law_names","_law_movers","_law_inner","_law_found","_law_name","_law_one"] ["_law_form_here","_law_names","_law_movers"] (bG yu):=cT
abbrev Yo:Stmt:=top 50
def QC:bJ ["_law_names","_law_known_here","_law_most","_law_some","_law_total","_law_name"] ["_law_names","_law_known_here","_law_most"] (bG Yo):=cT
abbrev Yr:Stmt:=top 51
def kU:bJ ["_law_pool","_law_many","_law_found"] ["_law_pool","_law_many"] (bG Yr):=cT
abbrev Qa:Stmt:=top 52
def Jg:bJ ["_law_pool","_law_kind","_law_names","_law_movers","_law_bounds","_law_times","_law_many","_law_some","_law_used","_law_j","_law_at","_law_twice"] ["_law_pool","_law_kind","_law_names","_law_movers","_law_bounds"] (bG Qa):=cT
abbrev QQ:Stmt:=top 53
def JO:bJ ["_law_pool","_law_names","_law_movers","_law_limbs","_law_bounds","_law_kind","_law_beats","_law_limb","_law_some"] ["_law_pool","_law_names","_law_movers","_law_limbs","_law_bounds"] (bG QQ):=cT
abbrev QP:Stmt:=top 54
def jC:bJ ["_law_script","_law_many","_law_bounds","_law_pool","_law_place","_law_limbs","_law_k","_law_called","_law_ended","_law_names","_law_movers","_law_known_here","_law_parts","_law_cell","_law_own","_law_form_here","_law_name"] ["_law_script","_law_many","_law_bounds"] (bG QP):=cT
abbrev Ym:Stmt:=top 55
def jS:bJ ["_law_script","_law_many","_law_bounds","_law_head","_law_limbs","_law_k","_law_height","_law_names","_law_movers","_law_known_here","_law_parts","_law_number","_law_form_here","_law_name"] ["_law_script","_law_many","_law_bounds"] (bG Ym):=cT
abbrev yr:Stmt:=top 56
def QV:bJ ["_law_book_here","_law_known_here","_law_name","_law_form_here"] ["_law_book_here"] (bG yr):=cT
abbrev QB:Stmt:=top 57
def jV:bJ ["_law_book_here","_law_number","_law_forms","_law_known_here","_law_name","_law_base","_law_found","_law_form_here","_law_at"] ["_law_book_here","_law_number"] (bG QB):=cT
abbrev QA:Stmt:=top 58
def Zz:bJ ["_law_box","_law_longs_here","_law_form_here"] ["_law_box"] (bG QA):=cT
abbrev Yp:Stmt:=top 59
def X9:bJ ["_law_form_here","_law_pins","_law_heights","_law_climbs"] ["_law_form_here","_law_pins","_law_heights","_law_climbs"] (bG Yp):=cT
abbrev Yq:Stmt:=top 60
def JP:bJ ["_law_box","_law_longs_here","_law_inners","_law_pins","_law_heights","_law_climbs","_law_found","_law_inner","_law_one","_law_gone_here"] ["_law_box","_law_longs_here","_law_inners","_law_pins","_law_heights","_law_climbs"] (bG Yq):=cT
abbrev Zm:Stmt:=top 61
def Jn:bJ ["_law_box","_law_longs_here","_law_number","_law_pins","_law_heights","_law_climbs","_law_form_here","_law_inner","_law_ahead","_law_many","_law_gone_here"] ["_law_box","_law_longs_here","_law_number","_law_pins","_law_heights","_law_climbs"] (bG Zm):=cT
abbrev yv:Stmt:=top 62
def JV:bJ ["_law_machine","_law_book_here","_law_box","_law_longs_here","_law_beat","_law_heights","_law_climbs","_law_gone_here","_law_limb","_law_start","_law_ago"] ["_law_machine","_law_book_here","_law_box","_law_longs_here","_law_beat"] (bG yv):=cT
abbrev AH:Stmt:=top 63
def zS:bJ ["_law_script","_law_many","_law_book_here","_law_beats","_law_box","_law_longs_here","_law_machine","_law_some","_law_k","_law_beat"] ["_law_script"] (bG AH):=cT
set_option genInjectivity false in
set_option genSizeOf false in
structure Ad where
 Hx:Addr
 Ip:FuncData
 qg:Addr
 qo:FuncData
 zB:Addr
 zE:FuncData
 Qj:Addr
 Ql:FuncData
 Al:Addr
 Ax:FuncData
 Kl:Addr
 Kw:FuncData
 xL:Addr
 Xc:FuncData
 Yy:Addr
 YC:FuncData
 Kk:Addr
 Kv:FuncData
 kA:Addr
 kE:FuncData
 xM:Addr
 Xd:FuncData
 xN:Addr
 Xe:FuncData
 zh:Addr
 zm:FuncData
 Za:Addr
 Zg:FuncData
 Km:Addr
 Kx:FuncData
 xO:Addr
 Xf:FuncData
 Zb:Addr
 Zh:FuncData
 yU:Addr
 y8:FuncData
 zC:Addr
 zF:FuncData
 wB:Addr
 wL:FuncData
 JB:Addr
 JX:FuncData
 qU:Addr
 qV:FuncData
 JE:Addr
 JF:FuncData
 ZF:Addr
 ZG:FuncData
 xR:Addr
 Xg:FuncData
 Ko:Addr
 Kz:FuncData
 Kn:Addr
 Ky:FuncData
 JD:Addr
 qh:FuncData
 yQ:Addr
 yX:FuncData
 qB:Addr
 qD:FuncData
 qA:Addr
 qC:FuncData
 qw:Addr
 qx:FuncData
 Qr:Addr
 Qv:FuncData
 yP:Addr
 yW:FuncData
 JW:Addr
 JY:FuncData
 qd:Addr
 qj:FuncData
 ZX:Addr
 Z4:FuncData
 qf:Addr
 qm:FuncData
 Q0:Addr
 Q3:FuncData
 zg:Addr
 zk:FuncData
 yS:Addr
 yZ:FuncData
 Qi:Addr
 Qk:FuncData
 Qs:Addr
 Qw:FuncData
 QY:Addr
 Q1:FuncData
 QZ:Addr
 Q2:FuncData
 Zr:Addr
 Zt:FuncData
 QJ:Addr
 QL:FuncData
 QI:Addr
 QK:FuncData
 yR:Addr
 yY:FuncData
 ZY:Addr
 Z5:FuncData
 Z0:Addr
 Z7:FuncData
 zf:Addr
 zj:FuncData
 zZ:Addr
 Zf:FuncData
 yT:Addr
 y6:FuncData
 J3:Addr
 qb:FuncData
 ZZ:Addr
 Z6:FuncData
 sL:Addr
 rL:FuncData
 jG:Addr
 jL:Addr
 xF:Value
 qS:Addr
structure Txt(K:cg)(mg:Nw)(t:Ad):Prop where
 MF:dE K mg "_wall" X7 t.Hx t.Ip ["k"]
 Qm:dE K mg "numbers_of" yx t.qg t.qo ["named"]
 Y0:dE K mg "names_in" kf t.zB t.zE ["form"]
 zY:dE K mg "form_with" Zn t.Qj t.Ql ["form","limbs","parts"]
 C6:dE K mg "made" Ai t.Al t.Ax ["book"]
 WR:dE K mg "come_to" KI t.Kl t.Kw ["forms","drum"]
 BV:dE K mg "drums" wo t.xL t.Xc ["book"]
 WT:dE K mg "name_of" KJ t.Yy t.YC ["number"]
 WQ:dE K mg "book_of" zu t.Kk t.Kv ["box"]
 wc:dE K mg "inner" wp t.kA t.kE ["book"]
 Ak:dE K mg "ends" Ah t.xM t.Xd ["book"]
 BW:dE K mg "moved" wt t.xN t.Xe ["book"]
 kx:dE K mg "check_side" zq t.zh t.zm ["row","moves","limbs"]
 KQ:dE K mg "length_of" Yu t.Za t.Zg ["form","inside"]
 WS:dE K mg "lengths" ZO t.Km t.Kx ["book"]
 C7:dE K mg "ramp" Aj t.xO t.Xf ["start","goal","beats","j"]
 KR:dE K mg "pieces_in" Yv t.Zb t.Zh ["form","inside","sizes"]
 KS:dE K mg "pieces_of" Zo t.yU t.y8 ["book","sizes"]
 Y1:dE K mg "progress" kg t.zC t.zF ["pieces","sizes","gone"]
 Bs:dE K mg "within" Wn t.wB t.wL ["pieces","sizes","gone"]
 Kb:eK K "__init__" "Stage.__init__" J1 t.JB t.JX
 Mp:Meth K t.jG "__init__" t.JB
 ZC:Binds K t.JX ["self","book"] []
 Wz:eK K "scene" "Stage.scene" Zy t.qU t.qV
 Yb:Meth K t.jG "scene" t.qU
 YT:Binds K t.qV ["self","beat"] []
 Y3:eK K "heights_at" "Stage.heights_at" Qe t.JE t.JF
 za:Meth K t.jG "heights_at" t.JE
 zx:Binds K t.JF ["self","beat"] []
 Mu:eK K "words_at" "Stage.words_at" QO t.ZF t.ZG
 Mq:Meth K t.jG "words_at" t.ZF
 Mt:Binds K t.ZG ["self","beat"] []
 xI:dE K mg "stand" X8 t.xR t.Xg ["book","beat"]
 WV:dE K mg "pins_of" ZP t.Ko t.Kz ["stage","starts","inside","part","gone"]
 WU:dE K mg "pins_at" KK t.Kn t.Ky ["stage","beat"]
 Y2:eK K "__init__" "Machine.__init__" Qd t.JD t.qh
 Mo:Meth K t.jL "__init__" t.JD
 YZ:Binds K t.qh ["self","box"] []
 MC:eK K "step" "Machine.step" zQ t.yQ t.yX
 Mw:Meth K t.jL "step" t.yQ
 MA:Binds K t.yX ["self"] []
 wy:eK K "jump" "Machine.jump" zN t.qB t.qD
 K1:Meth K t.jL "jump" t.qB
 wv:Binds K t.qD ["self","beat"] []
 wx:eK K "beat" "Machine.beat" zM t.qA t.qC
 yC:Meth K t.jL "beat" t.qA
 yH:Binds K t.qC ["self"] []
 kz:eK K "heights" "Machine.heights" Qz t.qw t.qx
 Y4:Meth K t.jL "heights" t.qw
 ko:Binds K t.qx ["self"] []
 wz:eK K "pins" "Machine.pins" zP t.Qr t.Qv
 yD:Meth K t.jL "pins" t.Qr
 yI:Binds K t.Qv ["self"] []
 MB:eK K "kept" "Machine.kept" zO t.yP t.yW
 Mv:Meth K t.jL "kept" t.yP
 Mz:Binds K t.yW ["self"] []
 Jo:dE K mg "_law_cell_at" zR t.JW t.JY ["_law_script","_law_k"]
 Jm:dE K mg "_law_mixed" yt t.qd t.qj ["_law_cell","_law_k"]
 ZQ:dE K mg "_law_great" yq t.ZX t.Z4 ["_law_script","_law_j","_law_k"]
 qc:dE K mg "_law_whole" yw t.qf t.qm ["_law_found"]
 QX:dE K mg "_law_word" Yt t.Q0 t.Q3 ["_law_place","_law_k"]
 zb:dE K mg "_law_named" zp t.zg t.zk ["_law_number","_law_names","_law_movers","_law_kind"]
 KP:dE K mg "_law_form" Yn t.yS t.yZ ["_law_number","_law_names","_law_movers","_law_limbs","_law_bounds"]
 Qg:dE K mg "_law_long" Q7 t.Qi t.Qk ["_law_form_here","_law_known_here"]
 ZR:dE K mg "_law_moves" yu t.Qs t.Qw ["_law_form_here","_law_names","_law_movers"]
 yJ:dE K mg "_law_last" Yo t.QY t.Q1 ["_law_names","_law_known_here","_law_most"]
 jO:dE K mg "_law_take" Yr t.QZ t.Q2 ["_law_pool","_law_many"]
 YU:dE K mg "_law_naming" Qa t.Zr t.Zt ["_law_pool","_law_kind","_law_names","_law_movers","_law_bounds"]
 ZE:dE K mg "_law_form_told" QQ t.QJ t.QL ["_law_pool","_law_names","_law_movers","_law_limbs","_law_bounds"]
 ZD:dE K mg "_law_book_told" QP t.QI t.QK ["_law_script","_law_many","_law_bounds"]
 KN:dE K mg "_law_book" Ym t.yR t.yY ["_law_script","_law_many","_law_bounds"]
 kq:dE K mg "_law_known" yr t.ZY t.Z5 ["_law_book_here"]
 ku:dE K mg "_law_seams" QB t.Z0 t.Z7 ["_law_book_here","_law_number"]
 kr:dE K mg "_law_longs" QA t.zf t.zj ["_law_box"]
 zW:dE K mg "_law_leaf" Yp t.zZ t.Zf ["_law_form_here","_law_pins","_law_heights","_law_climbs"]
 zX:dE K mg "_law_side" Yq t.yT t.y6 ["_law_box","_law_longs_here","_law_inners","_law_pins","_law_heights","_law_climbs"]
 JK:dE K mg "_law_gone" Zm t.J3 t.qb ["_law_box","_law_longs_here","_law_number","_law_pins","_law_heights","_law_climbs"]
 ZS:dE K mg "_law_right" yv t.ZZ t.Z6 ["_law_machine","_law_book_here","_law_box","_law_longs_here","_law_beat"]
 AD:dE K mg "law" AH t.sL t.rL ["_law_script"]
 jU:l4 K t.jG
 BX:Mk K t.jG t.JB
 Be:mg "Stage"= ↥t.jG
 qY:cN K t.jG "limbs"
 QT:cN K t.jG "first"
 qv:cN K t.jG "forms"
 Jd:cN K t.jG "sizes"
 zo:cN K t.jG "left"
 qF:cN K t.jG "pieces"
 j3:l4 K t.jL
 E1:Mk K t.jL t.JD
 Ez:mg "Machine"= ↥t.jL
 JJ:cN K t.jL "stage"
 Qy:cN K t.jL "last"
 JR:cN K t.jL "now"
 AE:mg "abs"= none
 Lv:mg "bool"= none
 Dc:mg "dict"= none
 Zd:mg "enumerate"= none
 DN:mg "int"= none
 Z2:mg "isinstance"= none
 Jl:mg "len"= none
 Kq:mg "list"= none
 uv:mg "max"= none
 uw:mg "min"= none
 Qt:mg "range"= none
 EL:mg "reversed"= none
 By:mg "sorted"= none
 WX:mg "sum"= none
 Z3:mg "tuple"= none
 sF:mg "zip"= none
 W3:mg "FIGURES"= some t.xF
 xB:RelV (.str "abcdefghijklmnopqrstuvwxyz") t.xF
 xY:mg "MOST_NAMES"= ↥t.qS
 qO:pZ K t.qS [("row",.flat (.int 8)),("side",.flat (.int 4))]
instance:Nonempty Ad:=⟨by constructor<;>exact default⟩
structure Bd where(P:Program)(w:World)(K:cg)(mg:Nw)(base:Heap)(t:Ad)
def gB(b:Bd):Prop:=Txt b.K b.mg b.t->eJ b.P b.w b.K b.mg b.base oK 126 b.t.sL b.t.rL ["_law_script"] (Pr.gz b.K)
instance:Nonempty Bd:=⟨⟨PySem.Challenge.pw_camplay_k40_whole_pins_walked,⟨λq q=>0,{strHash:=λq=>0,shareClass:=λq=>0,mergeTok:=id,idOf:=λq=>0,idOfShared:=λq q=>0,followText:=λq=>false,idOfImm:=λq=>0}⟩,[],λq=>none,{},Classical.choice inferInstance⟩⟩
@[irreducible]noncomputable def cB:Bd:=Classical.epsilon λb=>¬gB b
def P:=cB.P
def w:=cB.w
def K:=cB.K
def mg:=cB.mg
def base:=cB.base
def t:=cB.t
section
def XM(T:Txt K mg t):1<*t.Qj t.Ql ["form","limbs","parts"] (fc):=by
 specialize T.zY.F.ok Ec;let⟨a,l,p,g,G,rfl,f,v,q⟩:=h;refine⟨_,(jb (jM (jp j5 (jg jk (pv 0) jc) jD (bH _))
   (jf (jv (jr HJ (jJ (ja (jg jk (pv 0) jc) (ja (jg (Aa (K:=K) rfl (Jz hr)) (pv 1) (jg jk (pv 0) jc)) jd))) (Q5 ua (pv 0) (QU jc) Zk))))
   ju)
  (jb (jM (jp j5 (jg jk (pv 0) jc) jD (bH _))
   (jf (jv (jJ (ja (jg jk (pv 0) jc) (ja (jg jk (pv 0) jc) (ja (jg (Aa (K:=K) rfl (Jz hr)) (pv 2) (jg jk (pv 0) jc)) jd))))))
   ju)
  (jb (jM (jp YI (jg jk (pv 0) jc) (jJ (ja jD (ja jD jd))) (by with_unfolding_all rfl))
   (jf (jv (jJ (ja (jg jk (pv 0) jc) (ja (Js qu (by rfl) T.Z3 zD (ja (Jj (ow:=["other"]) (ci:=[2]) rfl (bM.of (bG Zn) ["form","limbs","parts"] rfl rfl ∅) (JM nofun) (yg (jg jk (pv 0) jc)) (λZ Z Z Z Z=>⟨(cA 0 (jW ["form","limbs","parts"] rfl ∅)),JS,(jg (Aa (K:=K) rfl (Jz hr)) (pv 1) (pv 0))⟩)) jd)) jd)))))
   ju)
  (jf (jv (pv 0)))))),?_⟩
 rotate_right 300
 have I:(200:Nat)<sizeLine:=by decide
 cases g with
 | mX r vs=>
  cases v;cases r with
  | false=>
   have c:H a=some (.tup (.str "hold"::vs)):=f;exists cD (bV.of c) (dZ) ?_;exists bQ ?_;exists cD (bV.of c) (dZ) ?_;exists bQ ?_;exists cD (bV.of c) (dZ) ?_;exists⟨ud,?_⟩;sleep 1;refine⟨p1,_,rfl,.inr (bV.of t1),rfl,rfl,_,rfl,?_⟩;refine bQ ?_;ac_nf;exact q a H1 s1 (s1 _ _ c)
  | true=>
   have c:H a=some (.tup (.str "ring"::vs)):=f;exists cD (bV.of c) (dZ) ?_;exists bQ ?_;exists cD (bV.of c) (dZ) ?_;exists bQ ?_;exists cD (bV.of c) (dZ) ?_;exists⟨ud,?_⟩;sleep 1;refine⟨p1,_,rfl,.inr (bV.of t1),rfl,rfl,_,rfl,?_⟩;refine bQ ?_;ac_nf;exact q a H1 s1 (s1 _ _ c)
 | rise x h n=>
  have c:H a=some (.tup [.str "raise",x,h,n]):=f;let⟨y,B,rfl⟩:=v;exists bO c ?_;exists cF ?_;exists bO c ?_;exists bO c ?_;refine Xo B ?_;exists⟨ud,?_⟩;sleep 1;exists⟨a,_,rfl,bV.of (s1 _ _ c),(by show¬(HT.de 4 0 (some 2)=0/\HT.de 4 4 none=4);decide),?_⟩;sleep 2;refine⟨p1,p2,_,_,rfl,rfl,bV.of (s2 _ _ t1),bV.of t2,(λz=>by cases z),?_,?_,?_⟩
  .show 2+2<=sizeLine;lia
  .intro z;cases z
  intro Z;sleep 3;exact q p3 H3 (s1.trans (s2.trans s3)) t3
 | again k x=>
  have c:H a=some (.tup [.str "again",k,x]):=f;let⟨y,B,rfl⟩:=v;exists bO c ?_;exists bQ ?_;exists bO c ?_;exists cF ?_;exists bO c ?_;exists bO c ?_;exists bO c ?_;refine Xo B ?_;exists⟨uc,?_⟩;sleep 1;exact q p1 H1 s1 t1
 | many s xs=>
  let⟨j,D,C,J,rfl⟩:=v;cases s with
  | false=>
   let⟨b,c,m⟩:=f;have c:H a=some (.tup [.str "row",.ref b]):=c;exists bO c ?_;exists bQ ?_;exists bO c ?_;exists bQ ?_;exists bO c ?_;exists⟨ud,?_⟩;sleep 1;refine⟨p1,_,rfl,.inr (bV.of t1),rfl,rfl,_,rfl,?_⟩;refine cF ?_;exists bO (s1 _ _ c) ?_;exists bO (s1 _ _ c) ?_;refine⟨b,rfl,⟨_,bV.of (s1 _ _ m)⟩,?_⟩;refine Qu (xs:=xs) (λi e d=>e=j.take i/\H1=d) ⟨rfl,rfl⟩ ?_ ?_ ?_
   .rintro i e d _ ⟨rfl,rfl⟩;exact bV.of (s1 _ _ m)
   .rintro i x e d o ⟨rfl,rfl⟩;have F:=(vx.mp o).1;have u:j[i]?=some j[i]:=vz ⋯;refine Jq (S':=[none,some _]) rfl ?_;exists dq ?_;exists Xo ((C i x _ o u).same s1) ?_;refine⟨by rw[vi];lia,?_,rfl⟩;rw[take_snoc u]
   rintro e d ⟨rfl,rfl⟩;rw[<-D,v5];refine⟨⋯,?_⟩;sleep 2;exists⟨p2,_,rfl,.inl ⟨bK.of t2,?_⟩⟩;sleep 3;exists⟨ud,?_⟩;sleep 4;exact q p4 H4 (s1.trans (s2.trans (s3.trans s4))) ⟨p3,t4,s4 _ _ t3⟩
  | true=>
   let⟨b,c,m⟩:=f;have c:H a=some (.tup [.str "side",.ref b]):=c;exists bO c ?_;exists bQ ?_;exists bO c ?_;exists bQ ?_;exists bO c ?_;exists⟨ud,?_⟩;sleep 1;refine⟨p1,_,rfl,.inr (bV.of t1),rfl,rfl,_,rfl,?_⟩;refine cF ?_;exists bO (s1 _ _ c) ?_;exists bO (s1 _ _ c) ?_;refine⟨b,rfl,⟨_,bV.of (s1 _ _ m)⟩,?_⟩;refine Qu (xs:=xs) (λi e d=>e=j.take i/\H1=d) ⟨rfl,rfl⟩ ?_ ?_ ?_
   .rintro i e d _ ⟨rfl,rfl⟩;exact bV.of (s1 _ _ m)
   .rintro i x e d o ⟨rfl,rfl⟩;have F:=(vx.mp o).1;have u:j[i]?=some j[i]:=vz ⋯;refine Jq (S':=[none,some _]) rfl ?_;exists dq ?_;exists Xo ((C i x _ o u).same s1) ?_;refine⟨by rw[vi];lia,?_,rfl⟩;rw[take_snoc u]
   rintro e d ⟨rfl,rfl⟩;rw[<-D,v5];refine⟨⋯,?_⟩;sleep 2;exists⟨p2,_,rfl,.inl ⟨bK.of t2,?_⟩⟩;sleep 3;exists⟨ud,?_⟩;sleep 4;exact q p4 H4 (s1.trans (s2.trans (s3.trans s4))) ⟨p3,t4,s4 _ _ t3⟩
def WM(T:Txt K mg t):1<*t.qg t.qo ["named"] (cI):=by
 specialize T.Qm.F.ok QW;let⟨l,M,xs,rfl,B,U,R,X,D,q⟩:=h;refine⟨_,(jb (cj 1 QW.nd zL)
  (jb (j7 PassesOwn.never rfl (wm (by rfl) T.Zd (ja (pv 0) jd)) (Ju rfl (jz (cA 2 QW.nd) (jz (cA 3 QW.nd) Jc)))
   (jf (Zl (Jz hr) (pv 1) (jg jk (pv 3) jc) (pv 2) rfl)))
  (jf (jv (pv 1))))),?_⟩
 rotate_right 103
 ac_nf;walk_at"f d hd H1 s1 t1";exists⟨l,_,rfl,bK.of (s1 _ _ B),?_⟩;refine kF (xs:=M.map V.ref) (λi p c=>fE λ(m n:N3)=>dH (p=[↥l,↥d,m,n]) (bI H c/\c d=some (.dK (fI (xs.take i))))) ⟨_,_,rfl,s1,t1⟩ ?_ ?_ ?_
 .rintro i p c _ ⟨m,n,rfl,g,f⟩;exact bK.of (g _ _ B)
 .rintro i v p c P L G ⟨m,n,rfl,g,f⟩ J Y;rw[vv]at G;let⟨a,x,rfl⟩:=vg.mp G;have Z:=(vx.mp x).1;have C:xs[i]?=some xs[i]:=vz ⋯;let⟨r,O⟩:=R i a _ x C;have I:=g.trans J;have o:⇑(xs.take i)=i:=by rw[vi];lia
  refine J0 (bV.of Y) ?_;exists bO (I _ _ O) ?_;refine⟨d,_,rfl,fP.k (k:=Sum.inr xs[i]) (J _ _ f) (by rw[G7,o];lia),?_⟩;have S:(Sum.inr xs[i]:Key)∉(fI (xs.take i)).map (·.1):=λz=>by
   rw[xu]at z;let⟨y,W,e⟩:=vK.mp z;have N:y=xs[i]:=Sum.inr.inj e;subst N;let⟨j,F,e⟩:=mem_iff_getElem.mp W;rw[getElem_take]at e;rw[o]at F;exact uf e (pairwise_iff_getElem.mp X j i ⋯ ⋯ F)
  refine⟨_,_,rfl,λb u h=>(jh (je h hd)).trans (I _ _ h),?_⟩;rw[jA,Yi S,take_snoc C,E9,o]
 rintro S' c ⟨m,n,rfl,g,f⟩;rw[vt,U,v5]at f;ac_nf;exact q d c g hd f
def HH(T:Txt K mg t)(Jb:1<*t.qg t.qo ["named"] (cI))(JL:1<*t.Qj t.Ql ["form","limbs","parts"] (fc)):2<*t.Al t.Ax ["book"] (i5):=by
 specialize T.C6.F.ok YL;let⟨b,pl,pp,a1,a2,l,f,rfl,B,W,n1,q⟩:=h;refine⟨_,(jb (cj 1 YL.nd (jq T.Qm Jb hr (ja (jg jk (pv 0) jc) jd)))
  (jb (cj 2 YL.nd zL)
  (jb (cj 3 YL.nd Hg)
  (jb (j7 PassesOwn.never rfl (jY (jg jk (pv 0) jc)) (Ju rfl (jz (cA 4 YL.nd) (jz (cA 5 YL.nd) Jc)))
   (jf (Zl (Jz hr) (pv 2) (pv 4) (HM hr.units (pv 3) (ja (jq T.zY JL hr (ja (pv 5) (ja (pv 1) (ja (pv 2) jd)))) (ja (jy FF (by rfl) T.Jl jZ (ja (pv 3) jd)) jd))) rfl)))
  (jf (jv (jJ (ja (Js (EO rfl) (by rfl) T.Kq Yz (ja (pv 3) jd)) (ja (JN (Jz hr) (pv 2) (jg jk (jg jw (jg jk (pv 0) jc) (qG JI jc)) jc)) jd))))))))),?_⟩
 rotate_right 105
 have a3:=W.mW;have pa:=B.pa.1;have la:=B.la.1;have l8:=W.l8;have R:⇑(bF f)=⇑f:=vt _;exists bO B.t ?_;exists⟨pl,a1,bF l,rfl,B.l,by rw[bF,vt];exact la,λi a x ea ex=>?_,W.ln,by rw[bF,vt];lia,λd H1 U hd ed=>?_⟩
 .unfold bF at ex;rw[vv]at ex;let⟨p,ep,rfl⟩:=vg.mp ex;exact⟨_,B.la.2 i a p ea ep⟩
 ac_nf;walk_at"f d2 hd2 H2 s2 t2";exists GP ?_;walk_at"f d3 hd3 H3 s3 t3";have n3:=none_of s2 hd3;have L:=s2.trans s3;have I:d2≠d3:=je t2 hd3;exists bO (L _ _ (U _ _ B.t)) ?_;refine⟨pp,rfl,⟨_,bK.of (L _ _ (U _ _ B.p))⟩,?_⟩;refine Jw (xs:=a2.map V.ref) (λi σ v=>fZ λ(Z o5:N3) (xs:List NE)=>eE (σ=[↥b,↥d,↥d2,↥d3,Z,o5]) (bI H1 v) (v d2=some (.dK (fJ ((bF f).take i) (bW (bF l) (bF f) (f.take i)).2))) (v d3=some (lG P w d3 xs)/\gV v xs (bW (bF l) (bF f) (f.take i)).1))
  ⟨_,_,[],rfl,L,s3 _ _ t2,t3,⟨rfl,λi d h=>by simp[bW]at h⟩⟩ ?_ ?_ ?_
 .rintro i σ v _ ⟨Z,o5,xs,rfl,C,_⟩;exact bK.of (C _ _ (U _ _ B.p))
 .rintro i x σ v hx ⟨Z,o5,xs,rfl,C,m,D,N⟩;let⟨a,p,rfl,Y,fb,G,hf⟩:=B.pa.cz hx;have hi:=(vx.mp Y).1;have S:=U.trans C;have M:=KZ (bF l) (bF f) i (f.take i) (by rw[vi];lia);have mp:=Gs (H:=v) W Y M.ln (C _ _ ed) m;have F:=N.1;have lk:=M.lk;have O:(bF f)[i]?=some p.1:=by unfold bF;rw[vv,Y];rfl
  have hk:(Sum.inr p.1:Key)∉(fJ ((bF f).take i) (bW (bF l) (bF f) (f.take i)).2).map (·.1):=λz=>by
   rw[xv (by rw[vi,M.ln];lia)]at z;let⟨y,hy,e⟩:=vK.mp z;have e':y=p.1:=Sum.inr.inj e;subst e';let⟨j,hj,e⟩:=mem_iff_getElem.mp hy;rw[vi]at hj;rw[getElem_take]at e;let⟨h2,m⟩:=vx.mp O;exact uf (e.trans m.symm) (pairwise_iff_getElem.mp W.pn j i ⋯ h2 ⋯)
  have nl:⇑(fJ ((bF f).take i) (bW (bF l) (bF f) (f.take i)).2)<sizeLine:=by
   rw[G8 (by rw[vi,M.ln];lia),vi];lia
  have et:(bF f).take (i+1)=(bF f).take i++[p.1]:=take_snoc O;have em:bW (bF l) (bF f) (f.take (i+1))=cQ (bF l) (bF f) (bW (bF l) (bF f) (f.take i)) p:=by rw[take_snoc Y,qE]
  rw[et,em];have ll:⇑((bF f).take i)=(bW (bF l) (bF f) (f.take i)).2.length:=by rw[vi,M.ln];lia
  generalize bW (bF l) (bF f) (f.take i)=st at *;refine J0 (bV.of (S _ _ G)) ?_;exists HZ ?_;exists⟨d3,xs,rfl,D,?_⟩;exists⟨fb,d,d2,_,_,rfl,wW.mp (bN.same S hf),mp,λc H4 o gc=>?_⟩;exists⟨d3,xs,rfl,o _ _ D,?_⟩;ac_nf;have r:=N.dM λb xs h=>o b (.tup xs) h
  let⟨f1,f2⟩:=r.found (d:=l0 (bF l) (bF f) st.2 p.2) M.nd;refine⟨xs,c,_,_,rfl,o _ _ D,r.nat,Dp gc,⋯,λp' a0=>?_,λhn=>?_⟩
  .let⟨hm,hv⟩:=f1 p' a0;rw[hv];exists⟨d2,_,rfl,fP.k (k:=Sum.inr p.1) (o _ _ m) nl,?_⟩;unfold cQ;dsimp only;rw[vd hm];refine⟨_,_,xs,rfl,λc u h=>(jh (je h hd2)).trans ((C.trans o) _ _ h),?_,(jh I.symm).trans (o _ _ D),r.dM λb xs h=>(jh (Je h (o _ _ m) (λz=>by cases z))).trans h⟩;rw[jA,Yi hk,xw ll];rfl
  .have hm:=f2 hn;exists⟨d2,_,rfl,fP.k (k:=Sum.inr p.1) ((jh I).trans (o _ _ m)) nl,?_⟩;unfold cQ;dsimp only;rw[vc hm];have tk:∀b ys,H4 b=some (.tup ys)->upd (upd H4 d3 (lG P w d3 (xs++[(kD (l0 (bF l) (bF f) st.2 p.2),c,.int (⇑xs:Nat))]))) d2 (.dK (putK (fJ ((bF f).take i) st.2) (Sum.inr p.1) (.int (⇑xs:Nat)))) b=some (.tup ys):=λb ys h=>(jh (Je h (o _ _ m) (λz=>by cases z))).trans ((jh (Je h (o _ _ D) (λz=>by cases z))).trans h)
   refine⟨_,_,xs++[(kD (l0 (bF l) (bF f) st.2 p.2),c,.int (⇑xs:Nat))],rfl,λc u h=>(jh (je h hd2)).trans ((jh (je h n3)).trans ((C.trans o) _ _ h)),?_,(jh I.symm).trans jA,?_⟩
   .rw[jA,Yi hk,xw ll,F];rfl
   .rw[F];rw[F]at tk;exact(r.dM tk).snoc (g5.dM tk gc)
 rintro S' v ⟨Z,o5,xs,rfl,C,m,D,N⟩;rw[vt,pa,v5]at m N;rw[<-R,v5]at m;have S:=U.trans C;exists⟨d3,xs,rfl,D,?_⟩;walk_at"f l5 hl5 H5 s5 t5";ac_nf;have J:=S.trans s5;let⟨a,ha,fb,G,hf⟩:=B.pa.get (i:=⇑f-1) (x:=f[⇑f-1]) (vz ⋯);refine bO (J _ _ B.t) ?_;exists bU (bK.of (J _ _ B.p)) (Ap (n:=⇑f) n1 (by rw[vt];exact pa) (by rw[vv,ha];rfl)) ?_;exists bO (J _ _ G) ?_;have M:=KZ (bF l) (bF f) ⇑f f rfl;have g:cM H5 d2 (.str f[⇑f-1].1) (some (vN ((bW (bF l) (bF f) f).2.getD (⇑f-1) 0))):=by
  have g:=cM.k (k:=Sum.inr f[⇑f-1].1) (s5 _ _ m);rw[Bh (j:=⇑f-1) (R.trans M.ln.symm) W.pn (by unfold bF;rw[vv,vz ⋯];rfl)]at g;exact g
 refine⟨d2,_,rfl,g,?_⟩;exists⟨ud,?_⟩;sleep 6;have X:=s5.trans s6;exact q p6 l5 (xs.map λq=>q.2.1) H6 (S.trans X) t6 (by rw[v6];exact s6 _ _ t5) (g9.of (N.dM λb xs h=>X _ _ h))
def Ei(T:Txt K mg t):1<*t.zB t.zE ["form"] (fu):=by
 specialize T.Y0.F.ok Ek;let⟨a,g,rfl,d,q⟩:=h;refine⟨_,(jb (jM (jp La (jg jk (pv 0) jc) (XW (v:=.ref t.qS) (by rfl) T.xY rfl) (by with_unfolding_all rfl))
   (jf (jv (jg jk (pv 0) jc)))
   ju)
  (jf (jv (We (jp j5 (jg jk (pv 0) jc) jD (bH _)) (Q5 ua (pv 0) (QU jc) Zk) (jJ jd))))),?_⟩
 rotate_right 100
 have f:(200:Nat)<sizeLine:=by decide
 cases g with
 | mX r vs=>
  cases r with
  | false=>
   have c:H a=some (.tup (.str "hold"::vs)):=d;exists cD (bV.of c) (dZ) ?_;exists⟨_,_,_,rfl,rfl,T.qO,?_⟩;exists bQ ?_;exists cD (bV.of c) (dZ) ?_;exists bQ ?_;exists⟨va _,?_⟩;walk_at"f b hb H1 s1 t1";exact q b H1 s1 t1
  | true=>
   have c:H a=some (.tup (.str "ring"::vs)):=d;exists cD (bV.of c) (dZ) ?_;exists⟨_,_,_,rfl,rfl,T.qO,?_⟩;exists bQ ?_;exists cD (bV.of c) (dZ) ?_;exists bQ ?_;exists⟨va _,?_⟩;walk_at"f b hb H1 s1 t1";exact q b H1 s1 t1
 | rise x h n=>
  have c:H a=some (.tup [.str "raise",x,h,n]):=d;exists bO c ?_;exists⟨_,_,_,rfl,rfl,T.qO,?_⟩;exists bQ ?_;exists bO c ?_;exists bQ ?_;exists⟨va _,?_⟩;walk_at"f b hb H1 s1 t1";exact q b H1 s1 t1
 | again k x=>
  have c:H a=some (.tup [.str "again",k,x]):=d;exists bO c ?_;exists⟨_,_,_,rfl,rfl,T.qO,?_⟩;exists bQ ?_;exists bO c ?_;exists cF ?_;exists⟨a,_,rfl,bV.of c,(by show¬(HT.de 3 0 (some 2)=0/\HT.de 3 3 none=3);decide),?_⟩;walk_at"f b hb H1 s1 t1";exact q b H1 s1 t1
 | many s xs=>
  let⟨b,c,e⟩:=d;cases s with
  | false=>
   have c:H a=some (.tup [.str "row",.ref b]):=c;exists bO c ?_;exists⟨_,_,_,rfl,rfl,T.qO,?_⟩;exists cF ?_;exists bO c ?_;exact q b H (bI.refl _) e
  | true=>
   have c:H a=some (.tup [.str "side",.ref b]):=c;exists bO c ?_;exists⟨_,_,_,rfl,rfl,T.qO,?_⟩;exists cF ?_;exists bO c ?_;exact q b H (bI.refl _) e
def EC(T:Txt K mg t)(QG:1<*t.zB t.zE ["form"] (fu)):2<*t.Kl t.Kw ["forms","drum"] (i3):=by
 specialize T.WR.F.ok yz;let⟨f,a0,o,e,rfl,ef,dr,D,tl,a2,q⟩:=h;refine⟨_,(jb (cj 2 yz.nd (HL (Hl (pv 1) yG HR) rfl rfl (by simp) nofun))
  (jb (j7 PassesOwn.never rfl (Fe (by rfl) T.Qt (ja (pv 1) (ja (qG JI jc) (ja (qG JI jc) jd)))) (cA 3 yz.nd)
   (jf (jM (LG (Lb (Jz hr) (pv 3) (pv 2)))
    (jf (j7 PassesOwn.never rfl (yg (jq T.Y0 QG hr (ja (jg jw (pv 0) (pv 3)) jd))) (cA 4 yz.nd)
     (jf (Zl (Jz hr) (pv 2) (pv 4) yG rfl))))
    ju)))
  (jf (jv (jy (WA rfl) (by rfl) T.By W2 (ja (pv 2) jd)))))),?_⟩
 rotate_right 203
 have fl:=dr.1;exists HY λd hd=>?_
 exists⟨jA,[(iK e,.bl true)],rfl,(by show 1<=15;decide),?_⟩;rw[Ln];have O:bI H (upd H d (.dK (cC [] [(iK e,.bl true)]))):=wu hd rfl;have e0:upd H d (.dK (cC [] [(iK e,.bl true)])) d=some (.dK [(iK e,.bl true)]):=jA;generalize upd H d (.dK (cC [] [(iK e,.bl true)]))=H0 at O e0|-;exists⟨(e:Int),-1,rfl,⟨⋯,⋯,⋯,⋯⟩,?_⟩;have en:((e:Int) - -1).toNat=e+1:=⋯
 rw[en];refine Gi (λi r R=>i9 λ(o3 p:N3) (m:List (Key×V)) (S:L6)=>eE (r=[↥f,some (vN e),↥d,o3,p]) (bI H R) (R d=some (.dK m)) (KySet m S/\iT o e i S))
  ⟨_,_,_,[e],rfl,O,e0,⟨rfl,by simp⟩,⟨λx v=>by rw[vo.mp v];exact .top,vo.mpr rfl,λy Z hi=>uf hi (by rw[vo.mp Z];lia)⟩⟩ ?_ ?_
 .rintro i r R hi ⟨o3,p,m,S,rfl,F,J,C,G⟩;obtain⟨y,Z⟩:∃y:Nat,(e:Int)-(i:Int)=(y:Int):=⟨e-i,⋯⟩
  have yi:y+i=e:=⋯
  rw[Z];have yk:o[y]?=some o[y]:=vz ⋯;let⟨fa,Y,X⟩:=dr.get yk;ac_nf;have g:=cM.k (k:=iK y) J;refine⟨d,_,rfl,g,?_⟩;rw[C.mem];refine⟨_,rfl,?_⟩;refine bT (λW=>?_) (λW=>?_)
  .exists bU (bK.of (F _ _ ef)) (jK (j:=y) (by rw[vv,Y];rfl)) ?_;exists⟨fa,_,rfl,X.same F,λb H1 s1 U=>?_⟩;rw[LY]at U;have eg:o.getD y (.hold 0)=o[y]:=by rw[vy,yk];rfl
   have cy:=G.yes D W yi;rw[eg]at cy;have n8:=D.l8 _ (getElem_mem ⋯:o[y]∈o);refine⟨b,rfl,⟨_,bV.of U⟩,?_⟩;refine Iv (xs:=o[y].ns.map vN) (λj r L=>fE λ(p:N3) (a:List (Key×V))=>i6 (r=[↥f,some (vN e),↥d,some (.int (y:Nat)),p]) (∀c u,c≠d->H1 c=some u->L c=some u) (L d=some (.dK a)/\KySet a (iU S (o[y].ns.take j))))
    ⟨_,m,rfl,λc u _ h=>h,s1 _ _ J,C⟩ ?_ ?_ ?_
   .rintro j r L _ ⟨p,a,rfl,N,I,B⟩;exact bV.of (N _ _ (Je U (s1 _ _ J) (λz=>by cases z)) U)
   .rintro j x r L v ⟨p,a,rfl,N,I,B⟩;let⟨z,M,rfl,a1⟩:=sJ v;have hj:=(vx.mp M).1;have kl:=B.len;have sl:⇑(iU S (o[y].ns.take j))<=e+1:=XA B.2 λx v=>by
     rcases zK.mp v with h | h
     .have:=(G.rc x h).le D;lia
     .have:=D.lt y _ yk x (mem_of_mem_take h);lia
    exists⟨d,_,rfl,fP.k (k:=iK z) I ⋯,?_⟩;refine⟨_,_,rfl,λc u n h=>(jh n).trans (N _ _ n h),jA,?_⟩;rw[take_snoc M,E2];exact B.put z _
   rintro r L ⟨p,a,rfl,N,I,B⟩;rw[vt,v5]at B;exact⟨_,_,a,_,rfl,λc u h=>N _ _ (je h hd) (s1 _ _ (F _ _ h)),I,B,cy⟩
  .ac_nf;exact⟨_,_,m,S,rfl,F,J,C,G.no W yi⟩
 rintro r R ⟨o3,p,m,S,rfl,F,J,C,G⟩;have sl:⇑S<=e+1:=XA C.2 λx v=>by have:=(G.rc x v).le D;lia
 exists⟨d,m,S.map (λn:Nat=>(n:Int)),rfl,J,by rw[C.1,v6];rfl,by rw[vt];lia,λl ms hl pm od=>?_⟩;let⟨ns,e1,I,e3⟩:=Eo pm od C.2;rw[e1];exact q l ns _ (F.trans (wu hl rfl)) (none_of F hl) jA I λx=>(e3 x).trans G.all
def G9(T:Txt K mg t)(JL:1<*t.Qj t.Ql ["form","limbs","parts"] (fc))(a3:2<*t.Al t.Ax ["book"] (i5))(Ke:2<*t.Kl t.Kw ["forms","drum"] (i3)):3<*t.xL t.Xc ["book"] (ie):=by
 specialize T.BV.F.ok Q8;let⟨b,pl,pp,a5,a6,r,D,rfl,B,W,n1,q⟩:=h;refine⟨_,(jb (cj 1 Q8.nd (jq T.C6 a3 hr (ja (pv 0) jd)))
  (jb (jo (i:=2) Q8.nd rfl (.inr rfl) (jg jk (pv 1) jc))
  (jb (cj 3 Q8.nd (jq T.WR Ke hr (ja (pv 2) (ja (jg jk (pv 1) jc) jd))))
  (jb (jo (i:=4) Q8.nd rfl (.inr rfl) (EH rfl (by rfl) T.Kq (by rfl) T.Qt (ja (jy jI (by rfl) T.Jl jZ (ja (jg jk (pv 0) jc) jd)) jd)))
  (jb (jo (i:=5) Q8.nd rfl (.inr rfl) zL)
  (jb (j7 PassesOwn.never rfl (wm (by rfl) T.Zd (ja (pv 3) jd)) (Ju rfl (jz (cA 6 Q8.nd) (jz (cA 7 Q8.nd) Jc)))
   (jf (Zl (Jz hr) (pv 5) (pv 7) (pv 6) rfl)))
  (jf (jv (jJ (ja (Js zi (by rfl) T.Kq Yz (ja (jg jk (pv 0) jc) jd)) (ja (Jj (ow:=["number"]) (ci:=[4,5,2]) rfl (bM.of (bG wo) ["book","found","forms","kept","limbs","anew","place","number"] rfl rfl ∅) (JM nofun) (jY (pv 3)) (λ_ _ _ _ _=>⟨(cA 0 (jW ["book","found","forms","kept","limbs","anew","place","number"] rfl ∅)),JS,(jq T.zY JL hr (ja (jg (zI (K:=K) rfl) (pv 3) (pv 0)) (ja (pv 1) (ja (pv 2) jd))))⟩)) jd))))))))))),?_⟩
 rotate_right 107
 have O:=Xw W n1;have a4:=O.nF;have tp:=O.tp;have la:=B.la.1;have l8:=W.l8;exists⟨b,pl,pp,a5,a6,r,D,rfl,B,W,n1,λtt f a0 H1 s1 et ef dr=>?_⟩;exists bO et ?_;exists bO et ?_;exists⟨f,a0,cG r D,g4 r D,rfl,ef,dr,O.dw,tp,a4,λl2 ms H2 s2 a8 N m1 m2=>?_⟩;have Z:Kept r D ms:=⟨m1,m2⟩
 have a9:=Z.len O;have nd:=AG m1;have J:=s1.trans s2;exists Mc ?_;exists bO (J _ _ B.t) ?_;refine⟨_,_,rfl,.inl ⟨_,bK.of (J _ _ B.l),rfl⟩,?_⟩;rw[vt,la];exists⟨⇑r,rfl,⋯,?_⟩;sleep 3;ac_nf;walk_at"f d4 hd4 H4 s4 t4";exists⟨l2,_,rfl,bK.of (s4 _ _ (s3 _ _ N)),?_⟩;refine kF (xs:=ms.map vN) (λi σ F=>fE λ(o6 o7:N3)=>dH (σ=[↥b,↥tt,↥f,↥l2,↥p3,↥d4,o6,o7]) (bI H3 F/\F d4=some (.dK (gZ (ms.take i))))) ⟨_,_,rfl,s4,t4⟩ ?_ ?_ ?_
 .rintro i σ F _ ⟨o6,o7,rfl,R,S⟩;exact bK.of (R _ _ (s3 _ _ N))
 .rintro i v σ F T' a7 hx ⟨o6,o7,rfl,R,S⟩ sP tP;let⟨m,C,rfl,I⟩:=sJ hx;have hi:=(vx.mp C).1;have tl:⇑(ms.take i)=i:=by rw[vi];lia
  refine J0 (bV.of tP) ?_;exists⟨d4,_,rfl,fP.k (k:=iK m) (sP _ _ S) (by rw[G5,tl];lia),?_⟩;have hk:iK m∉(gZ (ms.take i)).map (·.1):=λz=>by
   rw[xt]at z;let⟨y,hy,e⟩:=vK.mp z;have e':=Ay e;subst e';let⟨j,hj,e⟩:=mem_iff_getElem.mp hy;rw[tl]at hj;rw[getElem_take]at e;let⟨h2,N⟩:=vx.mp C;exact uf (e.trans N.symm) (pairwise_iff_getElem.mp nd j i ⋯ h2 hj)
  refine⟨_,_,rfl,λc u h=>(jh (je h hd4)).trans (sP _ _ (R _ _ h)),?_⟩;rw[jA,Yi hk,take_snoc C,E8,tl];rfl
 rintro S' H5 ⟨o6,o7,rfl,R,S⟩;rw[vt,v5]at S;have Y:=s3.trans R;have G:=J.trans Y;exists bO (G _ _ B.t) ?_;refine⟨pl,_,rfl,.inl (bK.of (G _ _ B.l)),?_⟩;sleep 6;have L:=Y.trans s6;have X:=G.trans s6;exists⟨l2,rfl,⟨_,bK.of (L _ _ N)⟩,?_⟩;refine JC (xs:=ms.map vN) (λi ys F=>dQ λ(o:L7)=>dH (ys=o.map V.ref) (bI H6 F/\g9 F o ((cZ (cG r D) ms).take i))) ⟨[],rfl,bI.refl _,.nil⟩ ?_ ?_ ?_
 .rintro i ys F _ ⟨o,rfl,g,p⟩;exact bK.of (g _ _ (L _ _ N))
 .rintro i x ys F hx ⟨o,rfl,g,p⟩;let⟨m,C,rfl,I⟩:=sJ hx;have hi:=(vx.mp C).1;have mt:=Z.lt O I;have mk:(cG r D)[m]?=some (cG r D)[m]:=vz ⋯;have eg:(cG r D).getD m (.hold 0)=(cG r D)[m]:=by rw[vy,mk];rfl
  let⟨fa,a2,a1⟩:=dr.get mk;have sH:=L.trans g;have U:=getElem_mem ⋯ (l:=cG r D) (n:=m);have gm:=LJ (H:=F) (l:=p3) (an:=d4) (n:=⇑r) (ms:=ms) (d:=(cG r D)[m]) (g _ _ (s6 _ _ (R _ _ t3))) (g _ _ (s6 _ _ S)) nd (O.lm _ U) (λj hj=>Z.sub I (by rw[eg];exact hj)) (O.dw.l8 _ U);refine Jq (S':=[none,some _,some _,some _]) rfl ?_;exists dq ?_;exists bU (bK.of (sH _ _ (s2 _ _ ef))) (jK (j:=m) (by rw[vv,a2];rfl)) ?_;exists⟨fa,p3,d4,_,_,rfl,(a1.same s2).same sH,gm,λc H7 s7 gc=>?_⟩;have dl:=p.1;rw[vi]at dl;refine⟨by rw[vt];lia,o++[c],by rw[vj];rfl,g.trans s7,?_⟩;rw[take_snoc (x:=rp (λn=>ms.idxOf n) (cG r D)[m]) (by unfold cZ;rw[vv,C,<-eg];rfl)];exact bL.snoc (bL.mono p λa d h=>h.same s7) gc
 rintro ys F ⟨o,rfl,g,p⟩;have kl:⇑(cZ (cG r D) ms)=⇑(ms.map vN):=by unfold cZ;rw[vt,vt]
 rw[<-kl,v5]at p;have dl:=p.1;rw[kl,vt]at dl;refine⟨by rw[vt];lia,?_⟩;sleep 8;exists⟨ud,?_⟩;sleep 9;have aa:=g.trans s8;have M:=s8.trans s9;exact q p9 p6 p8 o ms H9 (X.trans (g.trans M)) t9 (M _ _ (g _ _ t6)) (s9 _ _ t8) (none_of G hp6) (none_of (X.trans g) hp8) (je (g _ _ t6) hp8) (bL.mono p λa d h=>h.same M) Z
def EE(T:Txt K mg t):1<*t.Yy t.YC ["number"] (BP):=by
 refine T.WT.F.ok yA (λl H Q E h=>?_) (λf A e s H l Q E p h=>?_)
 .let⟨N,rfl,k,q⟩:=h;rfl
 let⟨N,rfl,k,q⟩:=h;refine⟨_,(jb (cj 1 yA.nd (jg Xq (XW (by rfl) T.W3 T.xB) (jr j6 (pv 0) jc)))
  (jb (Wj PassesOwn.never (jp sE (pv 0) jc (bH _))
   (jb (cj 0 yA.nd (jr Jf (pv 0) jc))
   (jf (cj 1 yA.nd (jr yf (jg Xq (XW (by rfl) T.W3 T.xB) (jr j6 (pv 0) jc)) (pv 1))))))
  (jf (jv (pv 1))))),?_⟩
 rotate_right 101
 have r:(200:Nat)<sizeLine:=by decide
 exists⟨_,_,_,rfl,rfl,∅,CZ ⋯ ⋯,?_⟩;exists⟨λn S' d=>fE λ(a:Nat) (b:Str)=>eE (S'=[some (.int (a:Nat)),some (.str b)]) (d=H) (n=a) ((a<26->b=fD N)/\(26<=a->a=N/\b=⟨#[97+N%26]⟩)),⟨N,N,_,rfl,rfl,rfl,λh=>?_,λh=>⟨rfl,?_⟩⟩,?_⟩
 .unfold fD;rw[vd h,show((N:Int)%26).toNat=N by lia]
 .rw[show((N:Int)%26).toNat=N%26 by lia]
 rintro n S' d ⟨a,b,rfl,rfl,m,g,j⟩;exists bT (λc=>?_) (λc=>?_)
 .let⟨o,rfl⟩:=j ⋯;refine⟨_,λS' d h=>h,?_⟩;exists⟨_,_,_,rfl,rfl,∅,CZ ⋯ ⋯,?_⟩;exists⟨_,_,rfl,rfl,(by show 1+1<=sizeLine;lia),?_⟩;refine⟨a/26,⋯,a/26,_,rfl,rfl,rfl,λh=>?_,λh=>uf h ⋯⟩;unfold fD;rw[vc ⋯,show((a:Int)/26%26).toNat=N/26 by lia];rfl
 .rw[g ⋯];ac_nf;exact q
def EB(T:Txt K mg t)(JL:1<*t.Qj t.Ql ["form","limbs","parts"] (fc))(Kh:1<*t.Yy t.YC ["number"] (BP)):2<*t.Kk t.Kv ["box"] (gv):=by
 specialize T.WQ.F.ok kj;let⟨bx,l,f,D,N,ls,y,rfl,L,S,la,R,dr,O,q⟩:=h;refine⟨_,(jb (jo (i:=1) kj.nd rfl (.inr rfl) (Jj (ow:=["name","height"]) (ci:=[]) rfl (bM.of (bG zu) ["box","limbs","names"] rfl rfl ∅) (YF nofun nofun) (jY (jg jk (pv 0) jc)) (λ_ _ _ _ _=>⟨(Ju rfl (jz (cA 0 (jW ["box","limbs","names"] rfl ∅)) (jz (cA 1 (jW ["box","limbs","names"] rfl ∅)) Jc))),JS,(pv 0)⟩)))
  (jb (jo (i:=2) kj.nd rfl (.inr rfl) (Jj (ow:=["number"]) (ci:=[]) rfl (bM.of (bG zu) ["box","limbs","names"] rfl rfl ∅) (JM nofun) (qP (by rfl) T.Qt (ja (jy jI (by rfl) T.Jl jZ (ja (jg jk (pv 0) jc) jd)) jd)) (λ_ _ _ _ _=>⟨(cA 0 (jW ["box","limbs","names"] rfl ∅)),JS,(jq T.WT Kh hr (ja (pv 0) jd))⟩)))
  (jf (jv (jJ (ja (Js zi (by rfl) T.Kq Yz (ja (jg jk (pv 0) jc) jd)) (ja (Jj (ow:=["name","form"]) (ci:=[1,2]) rfl (bM.of (bG zu) ["box","limbs","names"] rfl rfl ∅) (YF nofun nofun) (kQ false (by rfl) T.sF (ja (pv 2) (ja (jg jk (pv 0) jc) jd))) (λ_ _ _ _ _=>⟨(Ju rfl (jz (cA 0 (jW ["box","limbs","names"] rfl ∅)) (jz (cA 1 (jW ["box","limbs","names"] rfl ∅)) Jc))),JS,(jJ (ja (pv 0) (ja (jq T.zY JL hr (ja (pv 1) (ja (pv 2) (ja (pv 3) jd)))) jd)))⟩)) jd))))))),?_⟩
 rotate_right 102
 have a2:=O.nF;have l8:=O.l8;have a0:=la.1;have dl:=dr.1;have F:⇑(bF ls)=⇑ls:=vt _;exists bO L ?_;refine⟨l,rfl,⟨_,bK.of S⟩,?_⟩;refine JC (xs:=D.map V.ref) (λi m e=>m=((bF ls).take i).map V.str/\H=e) ⟨rfl,rfl⟩ ?_ ?_ ?_
 .rintro i m e _ ⟨rfl,rfl⟩;exact bK.of S
 .rintro i x m e hx ⟨rfl,rfl⟩;let⟨a,p,rfl,hp,W⟩:=la.cz hx;have Y:=(vx.mp hp).1;refine Jq (S':=[none,none]) rfl ?_;refine J0 (bV.of W) ?_;exists dq ?_;exists⟨by rw[vt,vi];lia,?_,rfl⟩;rw[take_snoc (x:=p.1) (by unfold bF;rw[vv,hp];rfl),vj];rfl
 rintro m e ⟨rfl,rfl⟩;have U:⇑(D.map V.ref)=⇑(bF ls):=by rw[vt,F];exact a0
 rw[U,v5];refine⟨by rw[vt,F];lia,?_⟩;sleep 1;exists bO (s1 _ _ L) ?_;refine⟨_,_,rfl,.inl ⟨_,bK.of (s1 _ _ R),rfl⟩,?_⟩;rw[vt,dl];exists⟨_,rfl,⋯,⋯,?_⟩;refine wK (λi m e=>m=(List.range i).map (λk=>V.str (fD k))/\H1=e) ⟨rfl,rfl⟩ ?_ ?_
 .rintro i m e Y ⟨rfl,rfl⟩;rw[show(0:Int)+(i:Nat)=(i:Nat)from ux _];refine Jq (S':=[none]) rfl ?_;exists dq ?_;exists⟨i,rfl,⋯,?_⟩;refine⟨by rw[vt,length_range];lia,?_,rfl⟩;rw[range_succ,vj];rfl
 rintro m e ⟨rfl,rfl⟩;rw[show((⇑y:Nat):Int).toNat=⇑y from Int.toNat_natCast _];refine⟨by rw[vt,length_range];lia,?_⟩;sleep 2;have o:=s1.trans s2;exists bO (o _ _ L) ?_;refine⟨l,_,rfl,.inl (bK.of (o _ _ S)),?_⟩;sleep 3;have g:=o.trans s3;exists bO (g _ _ L) ?_;ac_nf;have z:=s3 _ _ t2;refine⟨p2,f,_,_,rfl,bK.of z,bK.of (g _ _ R),?_⟩;refine W6 (xs:=(List.range ⇑y).map λk=>V.str (fD k)) (zs:=N.map V.ref) (λi m e=>dQ λ(b:L7)=>dH (m=b.map V.ref) (bI H3 e/\bL (cJ e) b ((cK ls y).take i))) (by rw[vt,vt,length_range];exact dl.symm) ⟨[],rfl,bI.refl _,.nil⟩ ?_ ?_ ?_
 .rintro i m e _ ⟨b,rfl,r,_⟩;exact⟨bK.of (r _ _ z),bK.of (r _ _ (g _ _ R))⟩
 .rintro i u v m e T' M hu hv ⟨b,rfl,r,B⟩ sP tP;rw[vv]at hu;let⟨k,Z,rfl⟩:=vg.mp hu;have Y:i<⇑y:=by
   have:=(vx.mp Z).1;rw[length_range]at this;exact this
  rw[List.getElem?_range Y]at Z;cases Z;let⟨a,d,rfl,X,gd⟩:=dr.cz hv;have sA:=r.trans sP;have a1:=g.trans sA;have C:=vm X;have pl:=B.1;rw[vi,Jr]at pl;have gm:=Lw (H:=M) (l:=p1) (p:=p2) (ls:=ls) (d:=d) (n:=⇑y) (sA _ _ (s3 _ _ (s2 _ _ t1))) (sA _ _ z) (O.lm d C) (λj hj=>by have:=O.dw.lt i d X j hj;lia) (O.dw.l8 d C);refine Jq (S':=[none,none,some _,some _]) rfl ?_;refine J0 (bV.of tP) ?_;exists dq ?_;exists⟨a,p1,p2,_,_,rfl,gd.same a1,gm,λc H4 s4 gc=>?_⟩;exists⟨ud,?_⟩;sleep 5;have sB:=sP.trans (s4.trans s5);refine⟨by rw[vt];lia,b++[p5],by rw[vj];rfl,r.trans sB,?_⟩;rw[take_snoc (yV X)];exact bL.snoc (bL.mono B λa x h=>cJ.same sB h) ⟨c,t5,wW.mpr (gc.same s5)⟩
 rintro m e ⟨b,rfl,r,B⟩;have kl:⇑(cK ls y)=⇑((List.range ⇑y).map λk=>V.str (fD k)):=by rw[Jr,vt,length_range]
 rw[<-kl,v5]at B;have pl:=B.1;rw[Jr]at pl;refine⟨by rw[vt];lia,?_⟩;sleep 6;exists⟨ud,?_⟩;sleep 7;have J:=s6.trans s7;have I:=r.trans J;have G:=g.trans I;exact q p7 p3 p6 b H7 G ⟨t7,I _ _ t3,la.mono λa x h=>G _ _ h,s7 _ _ t6,B.mono λa x h=>cJ.same J h⟩ (none_of o hp3) (none_of (g.trans r) hp6) (je (r _ _ t3) hp6)
def Hc(T:Txt K mg t)(Jb:1<*t.qg t.qo ["named"] (cI))(QG:1<*t.zB t.zE ["form"] (fu)):2<*t.kA t.kE ["book"] (ff):=by
 specialize T.wc.F.ok Yx;let⟨b,pl,pp,a1,I,ls,o,rfl,B,W,q⟩:=h;refine⟨_,(jb (jo (i:=1) Yx.nd rfl (.inr rfl) (jq T.Qm Jb hr (ja (jg jk (pv 0) jc) jd)))
  (jb (cj 2 Yx.nd (jN jd))
  (jb (j7 PassesOwn.never rfl (jY (jg jk (pv 0) jc)) (Ju rfl (jz (cA 3 Yx.nd) (jz (cA 4 Yx.nd) Jc)))
   (jf (jR (Jy q3 q4 q5 jH (pv 2) (ja (Jj (ow:=["other"]) (ci:=[1]) rfl (bM.of (bG wp) ["book","numbers","found","name","form"] rfl rfl ∅) (JM nofun) (yg (jq T.Y0 QG hr (ja (pv 4) jd))) (λ_ _ _ _ _=>⟨(cA 0 (jW ["book","numbers","found","name","form"] rfl ∅)),JS,(JN (Jz hr) (pv 1) (pv 0))⟩)) jd)))))
  (jf (jv (pv 2)))))),?_⟩
 rotate_right 104
 have a2:=W.mW;have pa:=B.pa.1;exists bO B.t ?_;exists⟨pp,I,bF o,rfl,B.p,by rw[bF,vt];exact pa,λi a x ea X=>?_,W.pn,by rw[bF,vt];lia,λd H1 J hd ed=>?_⟩
 .unfold bF at X;rw[vv]at X;let⟨p,ep,rfl⟩:=vg.mp X;let⟨fb,hb,_⟩:=B.pa.2 i a p ea ep;exact⟨_,hb⟩
 exists⟨va _,?_⟩;walk_at"f l hl H2 s2 t2";have nl:=none_of J hl;have L:=J.trans s2;exists bO (L _ _ B.t) ?_;refine⟨pp,rfl,⟨_,bK.of (L _ _ B.p)⟩,?_⟩;refine Jw (xs:=I.map V.ref) (λi σ f=>fZ λ(m:L7) (O R:N3)=>eE (σ=[↥b,↥d,↥l,O,R]) (bI H1 f) (f l=some (.lst (m.map V.ref))) ((∀a∈m,H a=none/\a≠l)/\fk f m ((o.take i).map λp=>(bY o p.2).map λj:Nat=>(j:Int))))
  ⟨[],_,_,rfl,s2,t2,(λa h=>nomatch h),.nil⟩ ?_ ?_ ?_
 .rintro i σ f _ ⟨m,O,R,rfl,v,z,G,C⟩;exact bK.of ((J.trans v) _ _ B.p)
 .rintro i x σ f N ⟨m,O,R,rfl,v,z,G,C⟩;let⟨a,p,rfl,hp,fb,Z,hf⟩:=B.pa.cz N;have hi:=(vx.mp hp).1;have s0:=J.trans v;let⟨wn,w8⟩:=W.f i p hp;have a0:=C.1;rw[vt,vi]at a0;refine J0 (bV.of (s0 _ _ Z)) ?_;exists⟨.inl ⟨rfl,_,bK.of z⟩,?_⟩;exists⟨fb,Rm.gF p.2,rfl,wW.mp (bN.same s0 hf),λc D S M=>?_⟩;have M:D c=some (.tup (p.2.ns.map V.str)):=by rw[M];cases p.2<;>rfl
  refine⟨c,rfl,⟨_,bV.of M⟩,?_⟩;refine Qu (xs:=p.2.ns.map V.str) (λj U f=>U=((p.2.ns.take j).map λx=>(cn (bF o) x:Int)).map V.int/\D=f) ⟨rfl,rfl⟩ ?_ ?_ ?_
  .rintro j U f _ ⟨rfl,rfl⟩;exact bV.of M
  .rintro j x U f N ⟨rfl,rfl⟩;rw[vv]at N;let⟨y,Y,rfl⟩:=vg.mp N;have hj:=(vx.mp Y).1;let⟨k,hk,ek⟩:=wn y (vm Y);refine Jq (S':=[none,some _]) rfl ?_;exists dq ?_;ac_nf;have g:cM D d (.str y) (some (.int (k:Nat))):=by
    have g:=cM.k (k:=Sum.inr y) ((v.trans S) _ _ ed);rw[Yd W.pn ek]at g;exact g
   refine⟨d,_,rfl,g,?_⟩;refine⟨by rw[vt,vt,vi];lia,?_,rfl⟩;rw[take_snoc Y,vj,vj,<-j2 W.pn ek];rfl
  rintro U f ⟨rfl,rfl⟩;rw[show(p.2.ns.map V.str).length=⇑p.2.ns from vt _,v5];refine⟨by rw[vt,vt];lia,?_⟩;sleep 4;have r:=S.trans s4;exists⟨l,_,_,rfl,rfl,r _ _ z,by rw[vt];lia,?_⟩;have F:p4≠l:=(je (S _ _ z) hp4).symm;have n4:H p4=none:=none_of (s0.trans S) hp4;refine⟨m++[p4],_,_,rfl,λc u h=>(jh (je h hl)).trans ((v.trans r) _ _ h),?_,λc n=>?_,?_⟩
  .rw[jA,vj];rfl
  .rcases vh.mp n with e | e
   .exact G c e
   .rw[vo.mp e];exact⟨n4,F⟩
  .rw[take_snoc hp,vj];refine bL.snoc (bL.mi C λc n ks h=>(jh (G c n).2).trans (r _ _ h)) ?_;have eq:List.map (λj:Nat=>(j:Int)) (bY o p.2)=p.2.ns.map λx=>(cn (bF o) x:Int):=by
    unfold bY;rw[v6];rfl
   show upd H4 l _ p4=some (.lst (List.map V.int (List.map (λj:Nat=>(j:Int)) (bY o p.2))));rw[jh F,t4,eq]
 rintro S' D ⟨m,O,R,rfl,v,z,G,C⟩;rw[vt,pa,v5]at C;ac_nf;exact q l m D (J.trans v) nl z (λa ha=>(G a ha).1) C
def HG(T:Txt K mg t)(Jb:1<*t.qg t.qo ["named"] (cI))(ze:2<*t.kA t.kE ["book"] (ff)):3<*t.xM t.Xd ["book"] (g6):=by
 specialize T.Ak.F.ok Zp;let⟨b,pl,pp,an,au,ls,ps,rfl,B,W,q⟩:=h;refine⟨_,(jb (cj 1 Zp.nd (jq T.Qm Jb hr (ja (jg jk (pv 0) jc) jd)))
  (jb (cj 2 Zp.nd (jN jd))
  (jb (j7 PassesOwn.never rfl (kQ false (by rfl) T.sF (ja (jg jk (pv 0) jc) (ja (jq T.wc ze hr (ja (pv 0) jd)) jd))) (Ju rfl (jz (cA 3 Zp.nd) (jz (cA 4 Zp.nd) Jc)))
   (jb (cj 5 Zp.nd (jg jk (pv 3) jc))
   (jb (cj 6 Zp.nd zL)
   (jb (qH (jp j5 (jg jk (pv 5) jc) jD (bH _))
    (jf (Zl (Jz hr) (pv 6) (JN (Jz hr) (pv 1) (jg jk (pv 5) jc)) (jg jk (pv 5) jc) rfl))
    ju)
   (jb (j7 PassesOwn.never rfl (jY (pv 4)) (cA 7 Zp.nd)
    (jf (jR (Jy q7 PySem.F.slot_dict_update PySem.F.type_dict_update E5 (pv 6) (ja (Js (EM rfl) (by rfl) T.Dc Cs (ja (jg jw (pv 2) (pv 7)) jd)) jd)))))
   (jf (jR (Jy q3 q4 q5 jH (pv 2) (ja (jy (xZ rfl) (by rfl) T.By W2 (ja (DH q7 PySem.F.slot_dict_items PySem.F.type_dict_items Gz (pv 6)) jd)) jd)))))))))
  (jf (jv (pv 2)))))),?_⟩
 rotate_right 107
 have aK:=W.mW;have l8:=W.l8;have pa:=B.pa.1;have la:=B.la.1;exists bO B.t ?_;exists⟨pl,an,bF ls,rfl,B.l,by rw[bF,vt];exact la,λi a x ea ex=>?_,W.ln,by rw[bF,vt];lia,λd H1 s1 hd ed=>?_⟩
 .unfold bF at ex;rw[vv]at ex;let⟨p,ep,rfl⟩:=vg.mp ex;exact⟨_,B.la.2 i a p ea ep⟩
 exists⟨va _,?_⟩;walk_at"f l hl H2 s2 t2";have nl:=none_of s1 hl;have ac:=s1.trans s2;have aD:d≠l:=je ed hl;exists bO (ac _ _ B.t) ?_;exists⟨b,pl,pp,an,au,ls,ps,rfl,B.same ac,W,λli am H3 s3 al af aF lia=>?_⟩;ac_nf;have F:=ac.trans s3;have ao:=lia.1;rw[vt]at ao;have aG:li≠l:=λz=>by rw[z,t2]at al;cases al
 refine⟨pp,li,_,_,rfl,bK.of (F _ _ B.p),bK.of af,?_⟩;have a9:∀{c u},H c=some u->c≠l:=λh=>je h nl
 have t3:H3 l=some (.lst []):=s3 _ _ t2;refine wV (xs:=au.map V.ref) (ys:=am.map V.ref) (λi σ H'=>rS λ(X:L7) (E:L0) (o3 o4 o5 o6 O:N3)=>i7 (σ=[↥b,↥d,↥l,o3,o4,o5,o6,O]) (∀c u,c≠l->H3 c=some u->H' c=some u) (H' l=some (.lst (X.map V.ref))) (∀a∈X,H a=none/\a≠l) (⇑E=i) (lO H' X E/\cP ls ps E))
  (by rw[vt,vt];lia) ⟨[],[],_,_,_,_,_,rfl,λc u _ h=>h,t3,(λa h=>nomatch h),rfl,.nil,λi p e _ h=>by simp at h⟩ ?_ ?_ ?_
 .rintro i σ H' _ ⟨X,E,o3,o4,o5,o6,O,rfl,sm,e1,na,lE,aE,oE⟩;exact⟨bK.of (sm _ _ (a9 B.p) (F _ _ B.p)),bK.of (sm _ _ aG af)⟩
 .rintro i u v σ H' P U hu hv ⟨X,E,o3,o4,o5,o6,O,rfl,sm,e1,na,lE,aE,oE⟩ sP tP;let⟨a,p,rfl,hp,fb,ag,hf⟩:=B.pa.cz hu;let⟨ia,is,rfl,ak,ay⟩:=lia.cz hv;rw[vv,hp]at ak;cases ak;have hi:=(vx.mp hp).1;have aA:ia∈am:=by
   rw[vv]at hv;let⟨a',ea,e'⟩:=vg.mp hv;injection e' with e';subst e';exact vm ea
  have aq:ia≠l:=λz=>by have:=aF ia aA;rw[z,t2]at this;cases this
  have C:∀c u,c≠l->H3 c=some u->U c=some u:=λc u Y h=>sP _ _ (sm _ _ Y h)
  have ah:U a=_:=C _ _ (a9 ag) (F _ _ ag);have Z:U ia=_:=C _ _ aq ay;have aw:U d=_:=C _ _ aD (s3 _ _ (s2 _ _ ed));have I:=sP _ _ e1;have a3:bN U fb p.2:=by
   have J:=bN.same F hf;generalize p.2=f at J;have np:∀{c:Addr} {xs:N2},H3 c=some (.tup xs)->c≠l:=λh=>Je h t3 (λz=>by cases z)
   cases f with
   | row ps=>let⟨c,y,M⟩:=J;exact⟨c,C _ _ (np y) y,C _ _ (np M) M⟩
   | side ps=>let⟨c,y,M⟩:=J;exact⟨c,C _ _ (np y) y,C _ _ (np M) M⟩
   | hold n=>exact C _ _ (np J) J
   | ring x n=>exact C _ _ (np J) J
   | rise x g n=>exact C _ _ (np J) J
   | again x n=>exact C _ _ (np J) J
  have w8:=(W.f i p hp).2;have wr:=λx h n (e:p.2 = .rise x h n)=>W.r i p.1 x h n (by rw[hp,<-e])
  have aB:=λj=>W.cq (j:=j) hp
  have ad:=y9 W ⋯ oE;have ae:∀(j:Nat) (e:Np),E[j]?=some e->⇑e<=8:=λj e h=>BI W ⋯ oE h
  refine J0 (bV.of tP) ?_;exists bO ah ?_;ac_nf;walk_at"f dl hdl H5 s5 t5";exists⟨λS' H6=>S'=[↥b,↥d,↥l,↥a,↥ia,↥fb,↥dl,O]/\bI U H6/\H6 dl=some (.dK ((ri ls p.2).map iQ)),?_,?_⟩
  rotate_left
  .by_cases a6:∃x h n,p.2 = .rise x h n
   .let⟨x,h,n,e⟩:=a6;rw[e]at a3;have a4:H5 fb=some (.tup [.str "raise",.str x,.int h,.int n]):=s5 _ _ a3;let⟨j,N⟩:=wr x h n e;exists bO a4 ?_;exists cF ?_;exists bO a4 ?_;exists bO a4 ?_;have g:cM H5 d (.str x) (some (.int (j:Nat))):=by
     have g:=cM.k (k:=Sum.inr x) (s5 _ _ aw);rw[Yd W.ln N]at g;exact g
    refine⟨d,_,rfl,g,?_⟩;refine⟨dl,_,rfl,fP.k (k:=Sum.inl (j:Int)) t5 (by show 0<sizeLine;lia),?_⟩;refine⟨rfl,λc u h=>(jh (je h hdl)).trans (s5 _ _ h),?_⟩;rw[jA,e];show _=some (HO.dK [iQ ((cn (bF ls) x:Nat),h)]);rw[j2 W.ln N];rfl
   .let⟨k,xs,hk,dk⟩:=BM a3 λx v n e=>a6 ⟨x,v,n,e⟩
    exists cD (bV.of (s5 _ _ hk)) (dZ) ?_;exists dW dk ?_;exists⟨rfl,s5,?_⟩;rw[IC λx v n e=>a6 ⟨x,v,n,e⟩];exact t5
  rintro S' H6 ⟨rfl,s6,t6⟩;ac_nf;have ai:=s6 _ _ Z;have a8:∀{c u},U c=some u->c≠dl:=λh=>je h hdl
  refine⟨ia,rfl,⟨_,bK.of ai⟩,?_⟩;refine Jw (xs:=((bY ps p.2).map λj:Nat=>(j:Int)).map V.int) (λt σ H7=>fE λ(m:Np) (O:N3)=>m9 (σ=[↥b,↥d,↥l,↥a,↥ia,↥fb,↥dl,O]) (bI U H7) (H7 dl=some (.dK (m.map iQ))) ((m.map (·.1)).Nodup) (∀k v,(k,v)∈m↔eO E ((bY ps p.2).take t) k v\/(k,v)∈ri ls p.2))
   ⟨_,_,rfl,s6,t6,I8 _,λk v=>⟨.inr,λh=>h.elim (λ⟨ab,j,a1,e,_⟩=>by cases ab<;>simp at e) id⟩⟩ ?_ ?_ ?_
  .rintro t σ H7 _ ⟨m,O,rfl,G,t7,D,m7⟩;exact bK.of (G _ _ Z)
  .rintro t x σ H7 hx ⟨m,O,rfl,G,t7,D,m7⟩;rw[vv,vv]at hx;let⟨jj,az,rfl⟩:=vg.mp hx;let⟨j,N,rfl⟩:=vg.mp az;have aI:=aB j (vm N);have e0:ri ls p.2=[]:=by
    rcases I7 (ps:=ps) (ls:=ls) p.2 with z | z
    .rw[z]at N;simp at N
    .exact z
   rw[e0]at m7;have hE:E[j]?=some (E.getD j []):=by rw[vy,vz ⋯];rfl
   let⟨aj,ax,bs,a2,R⟩:=aE.get hE;have ap:((E.getD j []).map (·.1)).Nodup:=((oE j _ _ (vz ⋯) hE).1).imp λh=>Int.ne_of_lt h
   have e8:=ae j _ hE;have k8:⇑m<=8:=by
    have z:=YG (n:=⇑ls) D λk hk=>by
     let⟨L,a5,rfl⟩:=vK.mp hk;rcases(m7 L.1 L.2).mp a5 with⟨ab,i',a1,_,o,_⟩ | o
     .exact ad i' _ o
     .exact nomatch o
    rw[vt]at z;lia
   exists⟨.inr (.inr (.inl ⟨rfl,.inl ⟨_,t7⟩⟩)),?_⟩;exists bU (bK.of (G _ _ I)) (Z1 (i:=(j:Int)) ⋯ ax) ?_;exists⟨aj,bs,E.getD j [],rfl,G _ _ (sP _ _ a2),R.1,λi' c L y M=>G _ _ (sP _ _ (R.2 i' c L y M)),?_⟩;walk_at"f d2 hd2 H8 s8 t8";ac_nf;rw[show([]:List (Key×V))=([]:Np).map iQ from rfl,Y5,Ey ap]at t8;have n2:dl≠d2:=je t7 hd2;refine⟨dl,d2,_,_,rfl,rfl,s8 _ _ t7,t8,n2,by rw[vt,vt];lia,?_⟩;rw[Y5];let⟨mn,mm⟩:=xm D ap;refine⟨eU m (E.getD j []),_,rfl,λc u h=>(jh (a8 h)).trans (s8 _ _ (G _ _ h)),jA,mn,λk v=>?_⟩;rw[mm,m7,e0,take_snoc N,FW];constructor
   .rintro(h | ⟨y,h | h⟩)
    .exact .inl (.inl h)
    .exact .inl (.inr ⟨y,h⟩)
    .exact nomatch h
   .rintro((h | ⟨y,h⟩) | h)
    .exact .inl h
    .exact .inr ⟨y,.inl h⟩
    .exact nomatch h
  rintro S' H7 ⟨m,aJ,rfl,G,t7,D,m7⟩;rw[vt,vt,v5]at m7;have k8:⇑m<=8:=by
   have z:=YG (n:=⇑ls) D λk hk=>by
    let⟨L,a5,rfl⟩:=vK.mp hk;rcases(m7 L.1 L.2).mp a5 with⟨ab,i',a1,_,o,_⟩ | o
    .exact ad i' _ o
    .let⟨x,n,e,ek⟩:=Xy.mp o;let⟨j,N⟩:=wr x _ n e;have h3:=Xp (vm N);have h4:⇑(bF ls)=⇑ls:=vt _;rw[ek];lia
   rw[vt]at z;lia
  exists⟨.inl ⟨rfl,_,bK.of (G _ _ I)⟩,?_⟩;exists⟨.inr (.inr (.inl ⟨rfl,.inl ⟨_,t7⟩⟩)),dl,_,rfl,rfl,t7,?_⟩;walk_at"f vw hvw H8 s8 t8";exists⟨vw,dl,m,rfl,t8,s8 _ _ t7,⋯,λr cs ms H9 s9 a7 e9 n9 a0 pw aC av=>?_⟩;ac_nf;have aH:=aE.1;refine⟨l,_,_,rfl,rfl,s9 _ _ (s8 _ _ (G _ _ I)),by rw[vt];lia,?_⟩;have S:=G.trans (s8.trans s9);have aa:r≠l:=(je (s8 _ _ (G _ _ I)) a7).symm;have nr:H r=none:=by
   cases z:H r with
   | none=>rfl
   | some u=>rw[s8 _ _ (G _ _ (C _ _ aa (F _ _ z)))]at a7;cases a7
  have ar:∀{c:Addr} {xs:N2},H9 c=some (.tup xs)->c≠l:=λh=>Je h (S _ _ I) (λz=>by cases z)
  refine⟨X++[r],E++[ms],_,_,_,_,_,rfl,λc u Y h=>(jh Y).trans (S _ _ (C _ _ Y h)),?_,λc Y=>?_,by rw[vn,lE];rfl,?_,?_⟩
  .rw[jA,vj];rfl
  .rcases vh.mp Y with z | z
   .exact na c z
   .rw[vo.mp z];exact⟨nr,aa⟩
  .refine bL.snoc (bL.mi aE λc Y e h=>?_) ?_
   .let⟨bs,a2,R⟩:=h;refine⟨bs,(jh (na c Y).2).trans (S _ _ (sP _ _ a2)),bL.mono R λc' L h'=>?_⟩;have h9:=S _ _ (sP _ _ h');exact(jh (ar h9)).trans h9
   .exact⟨cs,(jh aa).trans e9,aC,λi' c L y M=>(jh (ar (av i' c L y M))).trans (av i' c L y M)⟩
  .refine cP.snoc W oE (p:=p) (by rw[lE];exact hp) ?_ λk v=>?_
   .exact Fv (a0.map _) D pw
   .rw[a0.mem_iff,m7];exact⟨λh=>h.imp id Xy.mp,λh=>h.imp id Xy.mpr⟩
 rintro S' H' ⟨X,E,o3,o4,o5,o6,O,rfl,sm,e1,na,lE,aE,oE⟩;rw[vt]at lE;ac_nf;exact q l X E H' (λc u h=>sm _ _ (a9 h) (F _ _ h)) nl e1 (λa ha=>(na a ha).1) ⋯ aE oE
def Hd(T:Txt K mg t)(Kf:3<*t.xM t.Xd ["book"] (g6)):4<*t.xN t.Xe ["book"] (iu):=by
 specialize T.BW.F.ok Wo;let⟨b,pl,pp,Y,a2,ls,ps,rfl,B,W,q⟩:=h;refine⟨_,(jb (cj 1 Wo.nd (jN jd))
  (jb (j7 PassesOwn.never rfl (jY (jq T.Ak Kf hr (ja (pv 0) jd))) (cA 2 Wo.nd)
   (jf (jR (Jy q3 q4 q5 jH (pv 1) (ja (Jj (ow:=["limb","height"]) (ci:=[]) rfl (bM.of (bG wt) ["book","found","left"] rfl rfl ∅) (YF nofun nofun) (jY (pv 2)) (λ_ _ _ _ _=>⟨(Ju rfl (jz (cA 0 (jW ["book","found","left"] rfl ∅)) (jz (cA 1 (jW ["book","found","left"] rfl ∅)) Jc))),JS,(pv 0)⟩)) jd)))))
  (jf (jv (pv 1))))),?_⟩
 rotate_right 102
 have a5:=W.mW;exists⟨va _,?_⟩;walk_at"f l hl H1 s1 t1";exists⟨b,pl,pp,Y,a2,ls,ps,rfl,B.same s1,W,λe as E H2 s2 he ee ne lE aE oE=>?_⟩;have I:=aE.1;have a3:=s1.trans s2;have l2:H2 l=some (.lst []):=s2 _ _ t1;have a1:l≠e:=λz=>by rw[z,he]at t1;cases t1
 refine⟨e,rfl,⟨_,bK.of ee⟩,?_⟩;refine Jw (xs:=as.map V.ref) (λi σ n=>fE λ(g:L7) (F:N3)=>eE (σ=[↥b,↥l,F]) (∀c u,c≠l->H2 c=some u->n c=some u) (n l=some (.lst (g.map V.ref))) ((∀c∈g,H1 c=none/\c≠l)/\fk n g ((E.take i).map λe=>e.map (·.1))))
  ⟨[],_,rfl,λc u _ h=>h,l2,(λc h=>nomatch h),.nil⟩ ?_ ?_ ?_
 .rintro i σ n _ ⟨g,F,rfl,m,p,C,r⟩;exact bK.of (m _ _ a1.symm ee)
 .rintro i x σ n S ⟨g,F,rfl,m,p,C,r⟩;let⟨a,M,rfl,f,J,O,D⟩:=aE.cz S;have hi:=(vx.mp f).1;have X:=r.1;rw[vt,vi]at X;have am:a∈as:=by
   rw[vv]at S;let⟨a',ea,L⟩:=vg.mp S;injection L with L;subst L;exact vm ea
  have Z:a≠l:=λz=>by have:=ne a am;rw[z,t1]at this;cases this
  have v:n a=some (.lst (J.map V.ref)):=m _ _ Z O;have a4:=(oE i _ M (vz ⋯) f).1;have N:=BI W ⋯ oE f;exists⟨.inl ⟨rfl,_,bK.of p⟩,?_⟩;exists⟨a,rfl,⟨_,bK.of v⟩,?_⟩;refine JC (xs:=J.map V.ref) (λj G d=>G=((M.take j).map (·.1)).map V.int/\n=d) ⟨rfl,rfl⟩ ?_ ?_ ?_
  .rintro j G d _ ⟨rfl,rfl⟩;exact bK.of v
  .rintro j x G d U ⟨rfl,rfl⟩;let⟨c,kv,rfl,y,R⟩:=D.cz U;have hj:=(vx.mp y).1;have a0:c≠l:=λz=>by rw[z,l2]at R;cases R
   refine Jq (S':=[none,none]) rfl ?_;refine J0 (bV.of (m _ _ a0 R)) ?_;exists dq ?_;exists⟨by rw[vt,vt,vi];lia,?_,rfl⟩;rw[take_snoc y,vj,vj];rfl
  rintro G d ⟨rfl,rfl⟩;rw[show(J.map V.ref).length=⇑M by rw[vt];exact D.1,v5];refine⟨by rw[vt,vt];lia,?_⟩;sleep 4;exists⟨l,_,_,rfl,rfl,s4 _ _ p,by rw[vt];lia,?_⟩;have o:p4≠l:=(je p hp4).symm;have n4:H1 p4=none:=by
   cases z:H1 p4 with
   | none=>rfl
   | some u=>rw[m _ _ o (s2 _ _ z)]at hp4;cases hp4
  refine⟨g++[p4],_,rfl,λc u k h=>(jh k).trans (s4 _ _ (m _ _ k h)),?_,λc k=>?_,?_⟩
  .rw[jA,vj];rfl
  .rcases vh.mp k with z | z
   .exact C c z
   .rw[vo.mp z];exact⟨n4,o⟩
  .rw[take_snoc f,vj];exact bL.snoc (bL.mi r λc k ks h=>(jh (C c k).2).trans (s4 _ _ h)) ((jh o).trans t4)
 rintro S' H3 ⟨g,F,rfl,m,p,C,r⟩;rw[vt,I,v5]at r;exists q l g (E.map λe=>e.map (·.1)) H3 (λc u h=>m _ _ (je h hl) (a3 _ _ h)) hl p (λc k=>none_of s1 (C c k).1) (by rw[vt];exact lE) r (C5 lE oE)
def WL(T:Txt K mg t):1<*t.zh t.zm ["row","moves","limbs"] (dR):=by
 specialize T.kx.F.ok ZB;let⟨r,l,L,J,F,M,rfl,B,D,X,O,g,G,q⟩:=h;refine⟨_,(jb (jM (jp (K3 hr.units) (jN jd) (pv 1) (by with_unfolding_all rfl))
   (jf Yh)
   ju)
  (jf (j7 PassesOwn.never rfl (wm (by rfl) T.Zd (ja (pv 2) jd)) (Ju rfl (jz (jt (i:=3) ZB.nd rfl (.inr rfl)) (jz (cA 4 ZB.nd) Jc)))
   (jf (jM (jp yE (jy jI (by rfl) T.Jl jZ (ja (Jj (ow:=["move"]) (ci:=[3]) rfl (bM.of (bG zq) ["row","moves","limbs","number","limb"] rfl rfl ∅) (JM nofun) (jY (pv 1)) (λ_ _ _ _ _=>⟨(cA 0 (jW ["row","moves","limbs","number","limb"] rfl ∅)),(XY (jp (Y9 (K:=K) rfl) (pv 1) (pv 0) (by with_unfolding_all rfl))),yG⟩)) jd)) jc (bH _))
    (jf Yh)
    ju))))),?_⟩
 rotate_right 302
 have m:=D.1;exists⟨va _,?_⟩;sleep 0;exists⟨p0,l,J,M,rfl,rfl,t0,s0 _ _ B,m,λi b e R S=>s0 _ _ (D.2 i b e R S),?_⟩;exists dW (any_empty X) ?_;exists⟨L,_,rfl,bK.of (s0 _ _ g),?_⟩;refine kF (xs:=F.map V.ref) (λi I f=>fE λ(p u:N3)=>I=[~~~r,↥l,↥L,p,u]/\bI H f) ⟨_,_,rfl,s0⟩ ?_ ?_ ?_
 .rintro i I f _ ⟨p,u,rfl,n⟩;exact bK.of (n _ _ g)
 .rintro i v I f P N hx ⟨p,u,rfl,n⟩ Y Z;have y:=n.trans Y;refine J0 (bV.of Z) ?_;exists⟨l,rfl,⟨_,bK.of (y _ _ B)⟩,?_⟩;refine JC (xs:=J.map V.ref) (λj z c=>⇑z=⇑((M.take j).filter λe=>decide ((i:Int)∈e))/\N=c) ⟨rfl,rfl⟩ ?_ ?_ ?_
  .rintro j z c _ ⟨_,rfl⟩;exact bK.of (y _ _ B)
  .rintro j x z c C ⟨o,rfl⟩;let⟨a,e,rfl,k,U⟩:=D.cz C;refine Jq (S':=[none,some _]) rfl ?_;exists⟨a,_,rfl,.inl (bK.of (y _ _ U)),rfl,oT e,?_⟩;rw[D7];ac_nf;have W:⇑((M.take j).filter λe=>decide ((i:Int)∈e))<=8:=vW (length_filter_le _ _) (vW (List.length_take_le' _ _) O);refine bT (λd=>?_) (λd=>?_)
   .exists⟨⋯,?_,rfl⟩;rw[take_snoc k,filter_append,v8,vd (vG d),vn,vn,o];rfl
   .refine⟨?_,rfl⟩;rw[take_snoc k,filter_append,v8,vc #v[d],vn,o];rfl
  rintro z c ⟨o,rfl⟩;rw[vt,m,v5]at o;have o1:=G (i:Int);refine⟨⋯,?_⟩;sleep 2;exists⟨_,_,rfl,.inl ⟨_,bK.of t2,rfl⟩,?_⟩;exists bT (λd=>?_) (λd=>?_)
  .exfalso;lia
  .ac_nf;exact⟨_,_,rfl,y.trans s2⟩
 rintro S' f ⟨p,u,rfl,n⟩;exact q f n
def XN(T:Txt K mg t):1<*t.Za t.Zg ["form","inside"] (eB):=by
 specialize T.KQ.F.ok Ed;let⟨a,l,f,j,rfl,d,i,e,q⟩:=h;refine⟨_,(jb (jM (jp j5 (jg jk (pv 0) jc) jD (bH _))
   (jf (jv (jy (zr rfl) (by rfl) T.WX Kr (ja (pv 1) jd))))
   ju)
  (jb (jM (jp j5 (jg jk (pv 0) jc) jD (bH _))
   (jf (jv (jy (Ks rfl) (by rfl) T.uv xV (ja (pv 1) jd))))
   ju)
  (jb (jM (jp j5 (jg jk (pv 0) jc) jD (bH _))
   (jf (jv (jr qq (jg jk (pv 0) jc) (jg jw (pv 1) jc))))
   ju)
  (jf (jv (jg jk (pv 0) (qG JI jc))))))),?_⟩
 rotate_right 200
 have B:(200:Nat)<sizeLine:=by decide
 cases f with
 | hold n=>
  have c:H a=some (.tup _):=d;exists bO c ?_;exists bQ ?_;exists bO c ?_;exists bQ ?_;exists bO c ?_;exists bQ ?_;exists bO c ?_;exact q _ rfl
 | ring x n=>
  have c:H a=some (.tup _):=d;exists bO c ?_;exists bQ ?_;exists bO c ?_;exists bQ ?_;exists bO c ?_;exists bQ ?_;exists bO c ?_;exact q _ rfl
 | rise x v n=>
  have c:H a=some (.tup _):=d;exists bO c ?_;exists bQ ?_;exists bO c ?_;exists bQ ?_;exists bO c ?_;exists bQ ?_;exists bO c ?_;exact q _ rfl
 | row ps=>
  let⟨b,c,p⟩:=d;exists bO c ?_;exists cF ?_;exists⟨l,j,rfl,bK.of i,?_⟩;exact q _ rfl
 | side ps=>
  let⟨b,c,p⟩:=d;exists bO c ?_;exists bQ ?_;exists bO c ?_;exists cF ?_;exists⟨l,j,rfl,bK.of i,length_pos_iff.mpr e,λg m o=>?_⟩;exact q g ⟨m,o⟩
 | again k x=>
  have c:H a=some (.tup _):=d;let⟨y,r,rfl,u,z,C,D⟩:=e;exists bO c ?_;exists bQ ?_;exists bO c ?_;exists bQ ?_;exists bO c ?_;exists cF ?_;exists bO c ?_;exists bU (bK.of i) (dZ) ?_;ac_nf;exact q _ ⟨y,rfl,rfl⟩
def ED(T:Txt K mg t)(ze:2<*t.kA t.kE ["book"] (ff))(xK:4<*t.xN t.Xe ["book"] (iu))(ZW:1<*t.zh t.zm ["row","moves","limbs"] (dR))(yM:1<*t.Za t.Zg ["form","inside"] (eB)):5<*t.Km t.Kx ["book"] (fM):=by
 specialize T.WS.F.ok Qf;let⟨b,pl,pp,Z,a7,ls,F,gs,hs,rfl,B,S,q⟩:=h;refine⟨_,(jb (jo (i:=1) Qf.nd rfl (.inr rfl) (jq T.BW xK hr (ja (pv 0) jd)))
  (jb (jo (i:=2) Qf.nd rfl (.inr rfl) (jN jd))
  (jb (j7 PassesOwn.never rfl (wm (by rfl) T.Zd (ja (jq T.wc ze hr (ja (pv 0) jd)) jd)) (Ju rfl (jz (cA 3 Qf.nd) (jz (cA 4 Qf.nd) Jc)))
   (jb (cj 5 Qf.nd (jg jk (jg jw (jg jk (pv 0) jc) (pv 3)) jc))
   (jb (qH (jp j5 (jg jk (pv 5) jc) jD (bH _))
    (jf (jR (jq T.kx ZW hr (ja (pv 3) (ja (Jj (ow:=["part"]) (ci:=[1]) rfl (bM.of (bG ZO) ["book","moves","found","row","inside","form","length"] rfl rfl ∅) (JM nofun) (jY (pv 4)) (λ_ _ _ _ _=>⟨(cA 0 (jW ["book","moves","found","row","inside","form","length"] rfl ∅)),JS,(jg (zI (K:=K) rfl) (pv 1) (pv 0))⟩)) (ja (jg jk (pv 0) jc) jd))))))
    ju)
   (jb (cj 6 Qf.nd (jq T.KQ yM hr (ja (pv 5) (ja (Jj (ow:=["part"]) (ci:=[2]) rfl (bM.of (bG ZO) ["book","moves","found","row","inside","form","length"] rfl rfl ∅) (JM nofun) (jY (pv 4)) (λ_ _ _ _ _=>⟨(cA 0 (jW ["book","moves","found","row","inside","form","length"] rfl ∅)),JS,(jg (zI (K:=K) rfl) (pv 1) (pv 0))⟩)) jd))))
   (jb (jM (jp yE (pv 6) (jr QN jc jc) (bH _))
    (jf Yh)
    ju)
   (jf (jR (Jy q3 q4 q5 jH (pv 2) (ja (pv 6) jd)))))))))
  (jf (jv (pv 2)))))),?_⟩
 rotate_right 106
 have W:=S.w;have pa:=B.pa.1;have gl:=S.gl;have aw:=W.mW;exists⟨b,pl,pp,Z,a7,_,_,rfl,B,W,λlm ab M H1 s1 ar ae av Ml aM oM=>?_⟩;have mg:=S.mv M Ml oM;have aq:=aM.1;exists⟨va _,?_⟩;walk_at"f l hl H2 s2 t2";have nl:=none_of s1 hl;have a8:=s1.trans s2;exists⟨b,pl,pp,Z,a7,_,_,rfl,B.same a8,W,λli a3 H3 s3 a2 a1 al lia=>?_⟩;ac_nf;have a9:=a8.trans s3;have ao:=s2.trans s3;have J:=lia.1;rw[vt]at J;have am:li≠l:=λz=>by rw[z,t2]at a2;cases a2
 have t3:H3 l=some (.lst []):=s3 _ _ t2;have a6:∀{c u},H c=some u->c≠l:=λh=>je h nl
 have an:∀{c u},H1 c=some u->c≠l:=λh=>je h hl
 refine⟨li,_,rfl,bK.of a1,?_⟩;refine kF (xs:=a3.map V.ref) (λi σ r=>i9 λ(o3 o4 o5 o6:N3)=>dH (σ=[↥b,↥lm,↥l,o3,o4,o5,o6]) ((∀c u,c≠l->H3 c=some u->r c=some u)/\r l=some (.lst ((gs.take i).map V.int))))
  ⟨_,_,_,_,rfl,λc u _ h=>h,t3⟩ ?_ ?_ ?_
 .rintro i σ r _ ⟨o3,o4,o5,o6,rfl,sm,e1⟩;exact bK.of (sm _ _ am a1)
 .rintro i v σ r P C hv ⟨o3,o4,o5,o6,rfl,sm,e1⟩ sP tP;let⟨X,as,rfl,O,ah⟩:=lia.cz hv;have hi:i<⇑F:=by
   have:=(vx.mp O).1;rw[vt]at this;exact this
  obtain⟨p,hp⟩:∃p,F[i]?=some p:=⟨_,vz hi⟩
  rw[vv,hp]at O;cases O;let⟨a,ea,fb,af,hf⟩:=B.pa.get hp;have aj:X∈a3:=by
   rw[vv]at hv;let⟨a',ad,e'⟩:=vg.mp hv;injection e' with e';subst e';exact vm ad
  have a5:X≠l:=λz=>by have:=al X aj;rw[z,t2]at this;cases this
  have k4:∀c u,c≠l->H3 c=some u->C c=some u:=λc u I h=>sP _ _ (sm _ _ I h)
  have y:∀c u,H c=some u->C c=some u:=λc u h=>k4 _ _ (a6 h) (a9 _ _ h)
  have a4:∀c u,H1 c=some u->C c=some u:=λc u h=>k4 _ _ (an h) (ao _ _ h)
  have o:C X=some (.lst (((bY F p.2).map λj:Nat=>(j:Int)).map V.int)):=k4 _ _ a5 ah;have ac:=sP _ _ e1;have m:bN C fb p.2:=bN.same y hf;have Y:=λj=>W.cq (j:=j) hp
  have w8:⇑(bY F p.2)<=8:=by unfold bY;rw[vt];exact(W.f i p hp).2
  let⟨lp,ak⟩:=S.ln i p hp;have au:=S.gb i hi;refine J0 (bV.of tP) ?_;exists bO (y _ _ B.t) ?_;exists bU (bK.of (y _ _ B.p)) (Z1 (i:=(i:Int)) ⋯ ea) ?_;exists bO (y _ _ af) ?_;exists⟨λS' H5=>S'=[↥b,↥lm,↥l,~~~i,↥X,↥fb,o6]/\bI C H5,?_,?_⟩
  rotate_left
  .by_cases U:∃qs,p.2 = .side qs
   .let⟨qs,e⟩:=U;have ap:=S.sd i p qs hp e;generalize bY F p.2=is at o Y ap w8;rw[e]at m;let⟨nb,ag,_⟩:=m;exists bO ag ?_;exists cF ?_;exists⟨X,rfl,⟨_,bK.of o⟩,?_⟩;have aa:∀j∈is,∃c,ab[j]?=some c/\C c=some (.lst ((hs.getD j []).map V.int)):=λj D=>by
     have jl:=Y j D;let⟨c,I,h1⟩:=aM.get (i:=j) (x:=M.getD j []) (by rw[vy,vz ⋯];rfl);rw[mg j ⋯]at h1;exact⟨c,I,a4 _ _ h1⟩
    refine JC (xs:=(is.map λj:Nat=>(j:Int)).map V.int) (λt G r=>dQ λ(L:L7)=>dH (G=L.map V.ref) (fk C L ((is.take t).map λj=>hs.getD j [])/\C=r)) ⟨[],rfl,.nil,rfl⟩ ?_ ?_ ?_
    .rintro t G r _ ⟨L,rfl,lc,rfl⟩;exact bK.of o
    .rintro t x G r hx ⟨L,rfl,lc,rfl⟩;rw[vv,vv]at hx;let⟨jj,R,rfl⟩:=vg.mp hx;let⟨j,D,rfl⟩:=vg.mp R;let⟨c,I,h1⟩:=aa j (vm D);have a0:=lc.1;rw[vt,vi]at a0;refine Jq (S':=[none,some _]) rfl ?_;exists dq ?_;exists bU (bK.of (a4 _ _ ae)) (Z1 (i:=(j:Int)) ⋯ I) ?_;refine⟨by rw[vt];lia,L++[c],by rw[vj];rfl,?_,rfl⟩;rw[take_snoc D,vj];exact bL.snoc lc h1
    rintro G r ⟨L,rfl,lc,rfl⟩;rw[vt,vt,v5]at lc;have a0:=lc.1;rw[vt]at a0;refine⟨by rw[vt];lia,?_⟩;sleep 5;exists bO (s5 _ _ (y _ _ B.t)) ?_;exists⟨_,p5,pl,L,Z,(is.map λj=>hs.getD j []),rfl,t5,bL.mono lc λc ks h=>s5 _ _ h,λks ai=>?_,by rw[vt];lia,s5 _ _ (y _ _ B.l),ap.2,λH6 s6=>?_⟩
    .let⟨j,D,rfl⟩:=vK.mp ai;exact ap.1 j D
    ac_nf;exact⟨rfl,s5.trans s6⟩
   .have kd:∃k xs,C fb=some (.tup (.str k::xs))/\decide (k=("side" : Str))=false:=by
     generalize p.2=f at m U;cases f with
     | side qs=>exact uf ⟨qs,rfl⟩ U
     | hold n=>exact⟨_,_,m,by trivial⟩
     | ring x n=>exact⟨_,_,m,by trivial⟩
     | rise x v n=>exact⟨_,_,m,by trivial⟩
     | row qs=>let⟨_,h1,_⟩:=m;exact⟨_,_,h1,by trivial⟩
     | again k x=>exact⟨_,_,m,by trivial⟩
    let⟨k,xs,hk,dk⟩:=kd;exists cD (bV.of hk) (dZ) ?_;exists dW dk ?_;ac_nf;exact⟨rfl,bI.refl _⟩
  rintro S' H5 ⟨rfl,s5⟩;exists⟨X,rfl,⟨_,bK.of (s5 _ _ o)⟩,?_⟩;have N:=s5 _ _ ac;refine JC (xs:=((bY F p.2).map λj:Nat=>(j:Int)).map V.int) (λt G r=>G=(((bY F p.2).take t).map λj=>gs.getD j 0).map V.int/\H5=r) ⟨rfl,rfl⟩ ?_ ?_ ?_
  .rintro t G r _ ⟨rfl,rfl⟩;exact bK.of (s5 _ _ o)
  .rintro t x G r hx ⟨rfl,rfl⟩;rw[vv,vv]at hx;let⟨jj,R,rfl⟩:=vg.mp hx;let⟨j,D,rfl⟩:=vg.mp R;have jl:=Y j (vm D);refine Jq (S':=[none,some _]) rfl ?_;exists dq ?_;exists bU (bK.of N) (xc ⋯ jl) ?_;refine⟨by rw[vt,vt,vi];lia,?_,rfl⟩;rw[take_snoc D,vj,vj];rfl
  rintro G r ⟨rfl,rfl⟩;rw[show(((bY F p.2).map λj:Nat=>(j:Int)).map V.int).length=⇑(bY F p.2) by rw[vt,vt],v5];refine⟨by rw[vt,vt];lia,?_⟩;sleep 6;exists⟨fb,p6,p.2,_,rfl,bN.same (s5.trans s6) m,t6,lp,λg hg=>?_⟩;have eg:=ak g hg;subst eg;exists bT (λd=>?_) (λd=>?_)
  .exfalso;lia
  exists⟨.inl ⟨rfl,_,bK.of (s6 _ _ N)⟩,?_⟩;exists⟨l,_,_,rfl,rfl,s6 _ _ N,by rw[vt,vi];lia,?_⟩;refine⟨_,_,_,_,rfl,λc u I h=>(jh I).trans (s6 _ _ (s5 _ _ (k4 _ _ I h))),?_⟩;rw[jA,Iy ⋯,vj];rfl
 rintro S' r ⟨o3,o4,o5,o6,rfl,sm,e1⟩;rw[vt,J,<-gl,v5]at e1;ac_nf;exact q l r (λc u h=>sm _ _ (a6 h) (a9 _ _ h)) nl e1
def XO(T:Txt K mg t):1<*t.Zb t.Zh ["form","inside","sizes"] (eC):=by
 specialize T.KR.F.ok qr;let⟨a,l,s0,f,g,C,rfl,o,el,es,i8,hj,a2,q⟩:=h;refine⟨_,(jb (jM (jp j5 (jg jk (pv 0) jc) jD (bH _))
   (jb (cj 3 qr.nd (jg jw (pv 1) jc))
   (jb (cj 4 qr.nd (We (jp yE (jg jk (pv 0) jc) jc (bH _)) (jN (ja (jJ (ja (pv 3) (ja (jr JZ (jg jk (pv 0) jc) jc) (ja (jg jw (pv 2) (pv 3)) jd)))) jd)) (jN jd)))
   (jf (jv (jr Y8 (jN (ja (jJ (ja (pv 3) (ja jc (ja jc jd)))) jd)) (pv 4))))))
   ju)
  (jb (cj 5 qr.nd (jN jd))
  (jb (cj 6 qr.nd jc)
  (jb (j7 PassesOwn.never rfl (jY (pv 1)) (cA 3 qr.nd)
   (jb (jR (Jy q3 q4 q5 jH (pv 5) (ja (jJ (ja (pv 3) (ja jc (ja (pv 6) jd)))) jd)))
   (jf (jM (jp j5 (jg jk (pv 0) jc) jD (bH _))
    (jf (LF (i:=6) qr.nd rfl (.inl rfl) (jg jw (pv 2) (pv 3)) IV))
    ju))))
  (jf (jv (pv 5))))))),?_⟩
 rotate_right 304
 have S:∀j,j<⇑C->C[j]?=some (C.getD j 0):=λj h=>by
  rw[vy,vz h];rfl
 by_cases ha:∃k x,f = .again k x
 .let⟨k,x,rfl⟩:=ha;have o:H a=some (.tup [.str "again",.int k,.str x]):=o;let⟨j,r,rfl⟩:=List.exists_cons_of_ne_nil (a2 k x rfl);have lj:=hj j vq;exists bO o ?_;exists cF ?_;exists bU (bK.of el) (dZ) ?_;exists bO o ?_;exists bT (λc=>?_) (λc=>?_)
  .exists bO o ?_;exists bU (bK.of es) (jK (j:=j) (by rw[vv,S j lj];rfl)) ?_;exists⟨uc,?_⟩;sleep 1;exists⟨ue,?_⟩;sleep 2;exists⟨uc,?_⟩;sleep 3;exists⟨ue,?_⟩;sleep 4;exists⟨p4,p2,_,_,rfl,rfl,t4,s4 _ _ (s3 _ _ t2),ud,?_⟩;sleep 5;have O:=s1.trans (s2.trans (s3.trans (s4.trans s5)));refine q p5 [p3,p1] _ O (none_of (s1.trans (s2.trans (s3.trans s4))) hp5) t5 ?_;show gO H5 _ ((j,1,0)::(if 1<k then[(j,k-1,C.getD j 0)]else[]));rw[vd c];exact .cons (s5 _ _ (s4 _ _ t3)) (.cons (s5 _ _ (s4 _ _ (s3 _ _ (s2 _ _ t1)))) .nil)
  .exists⟨va _,?_⟩;sleep 2;exists⟨uc,?_⟩;sleep 3;exists⟨ue,?_⟩;sleep 4;exists⟨p4,p2,_,_,rfl,rfl,t4,s4 _ _ (s3 _ _ t2),ue,?_⟩;sleep 5;have O:=s2.trans (s3.trans (s4.trans s5));refine q p5 [p3] _ O (none_of (s2.trans (s3.trans s4)) hp5) t5 ?_;show gO H5 _ ((j,1,0)::(if 1<k then[(j,k-1,C.getD j 0)]else[]));rw[vc c];exact .cons (s5 _ _ (s4 _ _ t3)) .nil
 have a3:∃W xs,H a=some (.tup (.str W::xs))/\decide (W=("again" : Str))=false/\((decide (W=("row" : Str))=true/\∃xs,f = .row xs)\/(decide (W=("row" : Str))=false/\∀g,dt C f g=g.map λj=>(j,1,0))):=by
  cases f with
  | hold n=>exact⟨_,_,o,by trivial,.inr ⟨by trivial,λ_=>rfl⟩⟩
  | ring x n=>exact⟨_,_,o,by trivial,.inr ⟨by trivial,λ_=>rfl⟩⟩
  | rise x v n=>exact⟨_,_,o,by trivial,.inr ⟨by trivial,λ_=>rfl⟩⟩
  | row ps=>let⟨b,F,_⟩:=o;exact⟨_,_,F,by trivial,.inl ⟨by trivial,_,rfl⟩⟩
  | side ps=>let⟨b,F,_⟩:=o;exact⟨_,_,F,by trivial,.inr ⟨by trivial,λ_=>rfl⟩⟩
  | again k x=>exact uf ⟨k,x,rfl⟩ ha
 let⟨W,xs,Z,dk,y⟩:=a3;exists cD (bV.of Z) (dZ) ?_;exists dW dk ?_;exists⟨va _,?_⟩;walk_at"f p hp H1 s1 t1";ac_nf;have np:∀{c u},H c=some u->c≠p:=λh=>je h hp
 refine⟨l,rfl,⟨_,bK.of (s1 _ _ el)⟩,?_⟩;refine Jw (xs:=(g.map λj:Nat=>(j:Int)).map V.int) (λi σ I=>i9 λ(o3:N3) (D:Int) (d:L7) (B:List Pc)=>i7 (σ=[↥a,↥l,↥s0,o3,none,↥p,~~~D]) (bI H I) (I p=some (.lst (d.map V.ref))) (⇑d=i) (gO I d B) (((∃xs,f = .row xs)->cu C g 0=B++cu C (g.drop i) D)/\(¬(∃xs,f = .row xs)->D=0/\B=(g.take i).map λj=>(j,1,0))))
  ⟨_,0,[],[],rfl,s1,t1,rfl,.nil,λ_=>rfl,λ_=>⟨rfl,rfl⟩⟩ ?_ ?_ ?_
 .rintro i σ I _ ⟨o3,D,d,B,rfl,X,J,la,hq,F,U⟩;exact bK.of (X _ _ el)
 .rintro i v σ I hv ⟨o3,D,d,B,rfl,X,J,la,hq,F,U⟩;rw[vv,vv]at hv;let⟨jj,a1,rfl⟩:=vg.mp hv;let⟨j,G,rfl⟩:=vg.mp a1;have il:=(vx.mp G).1;have ed:g.drop i=j::g.drop (i+1):=by
   let⟨h,rfl⟩:=vx.mp G;exact List.drop_eq_getElem_cons h
  have lj:=hj j (vm G);exists⟨.inl ⟨rfl,_,bK.of J⟩,?_⟩;exists⟨uc,?_⟩;sleep 2;exists⟨p,_,_,rfl,rfl,s2 _ _ J,by rw[vt];lia,?_⟩;have n2:p2≠p:=λz=>by rw[z,s2 _ _ J]at t2;cases t2
  have s3:bI H (upd H2 p (.lst (d.map V.ref++[.ref p2]))):=λc u h=>(jh (np h)).trans (s2 _ _ (X _ _ h))
  have e3:upd H2 p (.lst (d.map V.ref++[.ref p2])) p=some (.lst ((d++[p2]).map V.ref)):=by rw[jA,vj];rfl
  have M:gO (upd H2 p (.lst (d.map V.ref++[.ref p2]))) (d++[p2]) (B++[(j,1,D)]):=by
   refine bL.snoc (bL.mono hq λc x h=>?_) ((jh n2).trans t2);exact(jh (λz=>by rw[z,J]at h;cases h)).trans (s2 _ _ h)
  generalize upd H2 p (.lst (d.map V.ref++[.ref p2]))=H3 at s3 e3 M|-;exists cD (bV.of (s3 _ _ Z)) (dZ) ?_;ac_nf;rcases y with⟨Y,m,R⟩ | ⟨Y,L⟩
  .refine lA Y ?_;exists bU (bK.of (s3 _ _ es)) (jK (j:=j) (by rw[vv,S j lj];rfl)) ?_;exists⟨_,_,d++[p2],B++[(j,1,D)],rfl,s3,e3,by rw[vn,la];rfl,M,λh=>?_,λh=>uf ⟨m,R⟩ h⟩;rw[F h,ed,List.append_assoc];rfl
  .refine dW Y ?_;exists⟨_,_,d++[p2],B++[(j,1,D)],rfl,s3,e3,by rw[vn,la];rfl,M,λh=>?_,λh=>?_⟩
   .let⟨m,R⟩:=h;subst R;have:=L [0,0];let⟨bb,a0,_⟩:=o;rw[a0]at Z;cases Z;exact uf Y ∅
   .let⟨b0,eq⟩:=U h;refine⟨b0,?_⟩;rw[take_snoc G,vj,eq,b0];rfl
 rintro S' I ⟨o3,D,d,B,rfl,X,J,la,hq,F,U⟩;rw[show((g.map λj:Nat=>(j:Int)).map V.int).length=⇑g by rw[vt,vt]]at F U;exists q p d I X hp J ?_;have e:dt C f g=B:=by
  by_cases N:∃xs,f = .row xs
  .let⟨m,rfl⟩:=N;show cu C g 0=B;rw[F ⟨m,rfl⟩,List.drop_length];exact append_nil _
  .rcases y with⟨_,m,R⟩ | ⟨_,L⟩
   .exact uf ⟨m,R⟩ N
   .rw[L,(U N).2,v5]
 rw[e];exact hq
def XQ(T:Txt K mg t)(ze:2<*t.kA t.kE ["book"] (ff))(yN:1<*t.Zb t.Zh ["form","inside","sizes"] (eC)):3<*t.yU t.y8 ["book","sizes"] (eD):=by
 specialize T.KS.F.ok Ee;let⟨b,pl,pp,s0,Z,C,ls,D,gs,rfl,B,W,es,gl,q⟩:=h;refine⟨_,(jf (jv (Jj (ow:=["part","inside"]) (ci:=[1]) rfl (bM.of (bG Zo) ["book","sizes"] rfl rfl ∅) (YF nofun nofun) (kQ false (by rfl) T.sF (ja (jg jk (pv 0) jc) (ja (jq T.wc ze hr (ja (pv 0) jd)) jd))) (λj j j j j=>⟨(Ju rfl (jz (cA 0 (jW ["book","sizes"] rfl ∅)) (jz (cA 1 (jW ["book","sizes"] rfl ∅)) Jc))),JS,(jq T.KR yN hr (ja (jg (IA (K:=K) rfl) (pv 0) jc) (ja (pv 1) (ja (pv 2) jd))))⟩)))),?_⟩;refine jB (S':=[some _,some _]) rfl ?_
 try dsimp only[eF,Cx.lL]
 have a3:=W.mW;have pa:=B.pa.1;exists bO B.t ?_;exists⟨b,pl,pp,Z,C,ls,D,rfl,B,W,λli Y H3 F a0 n a2 lia=>?_⟩;ac_nf;have y:=lia.1;rw[vt]at y;refine⟨pp,li,_,_,rfl,bK.of (F _ _ B.p),bK.of n,?_⟩;refine W6 (xs:=C.map V.ref) (zs:=Y.map V.ref) (λi J m=>dQ λ(d:L7)=>eE (J=d.map V.ref) (⇑d=i) (bI H3 m) ((∀a∈d,H a=none)/\nv m d ((D.take i).map λp=>dt gs p.2 (bY D p.2)))) (by rw[vt,vt];lia) ⟨[],rfl,rfl,bI.refl _,(λa h=>nomatch h),.nil⟩ ?_ ?_ ?_
 .rintro i J m _ ⟨d,rfl,G,g,I,l⟩;exact⟨bK.of (g _ _ (F _ _ B.p)),bK.of (g _ _ n)⟩
 .rintro i u v J m T0 H4 hu hv ⟨d,rfl,G,g,I,l⟩ sP tP;have hi:=(vx.mp hu).1;rw[vt]at hi;let⟨a,p,rfl,r,fb,R,hf⟩:=B.pa.cz hu;let⟨ia,is,rfl,o,S⟩:=lia.cz hv;rw[vv,r]at o;cases o;have a1:=(vx.mp r).1;have s4:=g.trans sP;have f:=F.trans s4;have i8:⇑(bY D p.2)<=8:=by unfold bY;rw[vt];exact(W.f i p r).2
  refine Jq (S':=[none,none,some _]) rfl ?_;refine J0 (bV.of tP) ?_;exists dq ?_;exists bO (f _ _ R) ?_;exists⟨fb,ia,s0,p.2,bY D p.2,gs,rfl,bN.same f hf,s4 _ _ S,f _ _ es,i8,λj hj=>by have:=W.cq r hj;lia,λk x e=>by rw[e];exact List.cons_ne_nil _ _,λp5 L H5 s5 U e5 X=>?_⟩;refine⟨by rw[vt];lia,d++[p5],by rw[vj];rfl,by rw[vn,G];rfl,s4.trans s5,λc hc=>(vh.mp hc).elim (I c) λz=>by rw[vo.mp z];exact none_of f U,?_⟩;rw[take_snoc r,vj];refine bL.snoc (bL.mono l λc x h=>?_) ⟨L,e5,X⟩;let⟨M,N,O⟩:=h;exact⟨M,s5 _ _ (sP _ _ N),bL.mono O λc x h=>s5 _ _ (sP _ _ h)⟩
 rintro J m ⟨d,rfl,G,g,I,l⟩;rw[vt]at G l;refine⟨by rw[vt];lia,?_⟩;sleep 4;refine q _ d _ (F.trans (g.trans s4)) (none_of (F.trans g) hp4) t4 ?_ I;rw[pa,v5]at l;refine bL.mono l λc x h=>?_
 let⟨M,N,O⟩:=h;exact⟨M,s4 _ _ N,bL.mono O λc x h=>s4 _ _ h⟩
def kL(T:Txt K mg t)(Jb:1<*t.qg t.qo ["named"] (cI))(Kf:3<*t.xM t.Xd ["book"] (g6))(Kg:5<*t.Km t.Kx ["book"] (fM))(yO:3<*t.yU t.y8 ["book","sizes"] (eD)):6<*t.JB t.JX ["self","book"] (fS t.jG):=by
 specialize T.Kb.ok kT;let⟨a,m,b,pl,pp,g,C,R,ps,gs,hs,rfl,ha,B,N,q⟩:=h;refine⟨_,(jb (Zw (pv 0) (jq T.Qm Jb hr (ja (jg jk (pv 1) jc) jd)) rfl)
  (jb (Zw (pv 0) (Jj (ow:=["name","height"]) (ci:=[]) rfl (bM.of (bG J1) ["self","book"] rfl rfl ∅) (YF nofun nofun) (jY (jg jk (pv 1) jc)) (λ_ _ _ _ _=>⟨(Ju rfl (jz (cA 0 (jW ["self","book"] rfl ∅)) (jz (cA 1 (jW ["self","book"] rfl ∅)) Jc))),JS,(pv 1)⟩)) rfl)
  (jb (Zw (pv 0) (Jj (ow:=["name","form"]) (ci:=[]) rfl (bM.of (bG J1) ["self","book"] rfl rfl ∅) (YF nofun nofun) (jY (jg jk (pv 1) jc)) (λ_ _ _ _ _=>⟨(Ju rfl (jz (cA 0 (jW ["self","book"] rfl ∅)) (jz (cA 1 (jW ["self","book"] rfl ∅)) Jc))),JS,(pv 1)⟩)) rfl)
  (jb (Zw (pv 0) (jq T.WS Kg hr (ja (pv 1) jd)) rfl)
  (jb (Zw (pv 0) (jq T.Ak Kf hr (ja (pv 1) jd)) rfl)
  (jf (Zw (pv 0) (jq T.KS yO hr (ja (pv 1) (ja (JG (pv 0) rfl) jd))) rfl))))))),?_⟩
 rotate_right 200
 have W:=N.s.w;have gl:=N.s.gl;have l8:=W.l8;have ae:=W.mW;have la:=B.la.1;have ac:=B.pa.1;let⟨S,I,n0,X⟩:=B.less ha;have z0:bI S H:=I H λc u _ h=>h
 exists bO B.t ?_;exists⟨pl,g,bF R,rfl,B.l,by rw[bF,vt];exact la,λi a x ea ex=>?_,W.ln,by rw[bF,vt];lia,λd H1 s1 hd ed=>?_⟩
 .unfold bF at ex;rw[vv]at ex;let⟨p,ep,rfl⟩:=vg.mp ex;exact⟨_,B.la.2 i a p ea ep⟩
 exists⟨a,_,m,[],rfl,s1 _ _ ha,T.jU,T.qY,(by show 0<1000;decide),?_⟩;have nd:d≠a:=λz=>by rw[z,ha]at hd;cases hd
 generalize e2:upd H1 a _=H2;have k2:∀c u,c≠a->H1 c=some u->H2 c=some u:=λc u n h=>e2▸(jh n).trans h
 have a2:=qT e2;clear e2;have z2:bI S H2:=I H2 λc u n h=>k2 _ _ n (s1 _ _ h)
 have B2:=X.same z2;exists bO B2.t ?_;exists⟨pl,rfl,⟨_,bK.of B2.l⟩,?_⟩;refine JC (xs:=g.map V.ref) (λi F o=>F=((R.map (·.2)).take i).map V.int/\H2=o) ⟨rfl,rfl⟩ ?_ ?_ ?_
 .rintro i F o _ ⟨rfl,rfl⟩;exact bK.of B2.l
 .rintro i v F o hv ⟨rfl,rfl⟩;let⟨a,p,rfl,hp,M⟩:=B2.la.cz hv;have hi:=(vx.mp hp).1;refine Jq (S':=[none,none]) rfl ?_;refine J0 (bV.of M) ?_;exists dq ?_;exists⟨by rw[vt,vi,vt];lia,?_,rfl⟩;rw[take_snoc (show(R.map (·.2))[i]?=some p.2 by rw[vv,hp];rfl),vj];rfl
 rintro F o ⟨rfl,rfl⟩;rw[show(g.map V.ref).length=⇑(R.map (·.2)) by rw[vt,vt];exact la,v5];refine⟨by rw[vt,vt];lia,?_⟩;sleep 3;exists⟨a,_,m,_,rfl,s3 _ _ a2,T.jU,T.QT,vT (Jx _ _ _) nofun,?_⟩;have n3:p3≠a:=λz=>by rw[z,a2]at hp3;cases hp3
 generalize e4:upd H3 a _=H4;have k4:∀c u,c≠a->H3 c=some u->H4 c=some u:=λc u n h=>e4▸(jh n).trans h
 have a4:=qT e4;clear e4;have z4:bI S H4:=λc u h=>k4 _ _ (n0 h) (s3 _ _ (z2 _ _ h))
 have B4:=X.same z4;exists bO B4.t ?_;exists⟨pp,rfl,⟨_,bK.of B4.p⟩,?_⟩;refine JC (xs:=C.map V.ref) (λi F o=>dQ λ(f:L7)=>dH (F=f.map V.ref) (bL (λa p=>bN H4 a p.2) f (ps.take i)/\H4=o)) ⟨[],rfl,.nil,rfl⟩ ?_ ?_ ?_
 .rintro i F o _ ⟨f,rfl,J,rfl⟩;exact bK.of B4.p
 .rintro i v F o hv ⟨f,rfl,J,rfl⟩;let⟨a',p,rfl,hp,fb,M,hf⟩:=B4.pa.cz hv;have hi:=(vx.mp hp).1;have a5:=J.1;rw[vi]at a5;refine Jq (S':=[none,none]) rfl ?_;refine J0 (bV.of M) ?_;exists dq ?_;exists⟨by rw[vt];lia,f++[fb],by rw[vj];rfl,?_,rfl⟩;rw[take_snoc hp];exact bL.snoc J hf
 rintro F o ⟨f,rfl,J,rfl⟩;rw[vt,ac,v5]at J;have fl:=J.1;refine⟨by rw[vt];lia,?_⟩;sleep 5;exists⟨a,_,m,_,rfl,s5 _ _ a4,T.jU,T.qv,vD (Jx _ _ _) (vD (Nat.succ_le_succ (Jx _ _ _)) nofun),?_⟩;have n5:p5≠a:=λz=>by rw[z,a4]at hp5;cases hp5
 generalize e6:upd H5 a _=H6;have k6:∀c u,c≠a->H5 c=some u->H6 c=some u:=λc u n h=>e6▸(jh n).trans h
 have a6:=qT e6;clear e6;have z6:bI S H6:=λc u h=>k6 _ _ (n0 h) (s5 _ _ (z4 _ _ h))
 exists⟨b,pl,pp,g,C,R,ps,gs,hs,rfl,X.same z6,N.s,λl7 H7 s7 a1 e7=>?_⟩;exists⟨a,_,m,_,rfl,s7 _ _ a6,T.jU,T.Jd,vU,?_⟩;have n7:l7≠a:=λz=>by rw[z,a6]at a1;cases a1
 generalize e8:upd H7 a _=H8;have k8:∀c u,c≠a->H7 c=some u->H8 c=some u:=λc u n h=>e8▸(jh n).trans h
 have a8:=qT e8;clear e8;have z8:bI S H8:=λc u h=>k8 _ _ (n0 h) (s7 _ _ (z6 _ _ h))
 exists⟨b,pl,pp,g,C,R,ps,rfl,X.same z8,W,λl9 as E Y U a3 e9 na lE aE oE=>?_⟩;exists⟨a,_,m,_,rfl,U _ _ a8,T.jU,T.zo,vX,?_⟩;have n9:l9≠a:=λz=>by rw[z,a8]at a3;cases a3
 generalize L:upd Y a _=H10;have O:∀c u,c≠a->Y c=some u->H10 c=some u:=λc u n h=>L▸(jh n).trans h
 have k:=qT L;clear L;have ad:bI S H10:=λc u h=>O _ _ (n0 h) (U _ _ (z8 _ _ h))
 have w7:∀c u,c≠a->H7 c=some u->H10 c=some u:=λc u n h=>O _ _ n (U _ _ (k8 _ _ n h))
 exists⟨a,_,m,_,_,rfl,k,T.jU,T.Jd,(Ji ∅).trans zH,?_⟩;exists⟨b,pl,pp,l7,g,C,R,ps,gs,rfl,X.same ad,W,w7 _ _ n7 e7,gl,λy l j D G a7 a0 _=>?_⟩;exists⟨a,_,m,_,rfl,D _ _ k,T.jU,T.qF,wh,?_⟩;have a9:y≠a:=λz=>by rw[z,k]at G;cases G
 have r:∀c u,c≠a->j c=some u->upd j a (.ins t.jG m (iG ⟨d,p3,p5,l7,l9,y,f,as,l⟩)) c=some u:=λc u n h=>(jh n).trans h
 have u9:∀c u,c≠a->Y c=some u->upd j a (.ins t.jG m (iG ⟨d,p3,p5,l7,l9,y,f,as,l⟩)) c=some u:=λc u n h=>r _ _ n (D _ _ (O _ _ n h))
 have u7:∀c u,c≠a->H7 c=some u->_=some u:=λc u n h=>u9 _ _ n (U _ _ (k8 _ _ n h))
 have u5:∀c u,c≠a->H5 c=some u->_=some u:=λc u n h=>u7 _ _ n (s7 _ _ (k6 _ _ n h))
 have u3:∀c u,c≠a->H3 c=some u->_=some u:=λc u n h=>u5 _ _ n (s5 _ _ (k4 _ _ n h))
 have u1:∀c u,c≠a->H1 c=some u->_=some u:=λc u n h=>u3 _ _ n (s3 _ _ (k2 _ _ n h))
 have nq:∀{c:Addr} {xs:N2},j c=some (.lst xs)->c≠a:=λh z=>by rw[z,D _ _ k]at h;cases h
 have ab:∀{c:Addr} {xs:N2},j c=some (.tup xs)->c≠a:=λh z=>by rw[z,D _ _ k]at h;cases h
 have nt:∀{c:Addr} {xs:N2},Y c=some (.tup xs)->c≠a:=λh z=>by rw[z,U _ _ a8]at h;cases h
 have nl:∀{c:Addr} {xs:N2},Y c=some (.lst xs)->c≠a:=λh z=>by rw[z,U _ _ a8]at h;cases h
 have aa:∀{c:Addr} {xs:N2},H4 c=some (.tup xs)->c≠a:=λh z=>by rw[z,a4]at h;cases h
 exact q ⟨d,p3,p5,l7,l9,y,f,as,l⟩ E _ (λc u n h=>u1 _ _ n (s1 _ _ h)) ⟨⟨m,jA⟩,u1 _ _ nd ed,u3 _ _ n3 t3,u5 _ _ n5 t5,bL.mono J λc p h=>bN.put (λb xs hb=>u5 _ _ (aa hb) (s5 _ _ hb)) h,u7 _ _ n7 e7,u9 _ _ n9 e9,lE,
  bL.mono aE λc e ⟨bs,Z,h2⟩=>⟨bs,u9 _ _ (nl Z) Z,bL.mono h2 λb q h=>u9 _ _ (nt h) h⟩,oE,r _ _ a9 a7,bL.mono a0 λc e ⟨bs,Z,h2⟩=>⟨bs,r _ _ (nq Z) Z,bL.mono h2 λb q h=>r _ _ (ab h) h⟩⟩
def YQ(T:Txt K mg t)(Kc:2<*t.Kk t.Kv ["box"] (gv))(JA:6<*t.JB t.JX ["self","book"] (fS t.jG)):8<*t.JD t.qh ["self","box"] (iq t.jL t.jG):=by
 specialize T.Y2.ok YS;let⟨m,a,bx,l,f,g,x,G,Y,O,hs,rfl,R,et,el,la,ef,dr,Bx,N,q⟩:=h;refine⟨_,(jb (Zw (pv 0) (XX T.BX (JA.mono nofun) hr (by rfl) T.Be T.ZC .nil c8 (ja (jq T.WQ Kc hr (ja (pv 1) jd)) jd)) rfl)
  (jb (Zw (pv 0) (jg jw (JG (JG (pv 0) rfl) rfl) (qG JI jc)) rfl)
  (jf (Zw (pv 0) jc rfl)))),?_⟩
 rotate_right 200
 have nm:∀{c:Addr} {xs:N2},H c=some (.lst xs)->c≠m:=λh z=>by rw[z,R]at h;cases h
 exists⟨bx,l,f,g,x,G,Y,rfl,et,el,la,ef,dr,Bx,λb pl pp I L p B1 _ _ _=>?_⟩;ac_nf;intro o y k D ne;have J:bI L (upd (upd L y (.own o)) o (.ins t.jG y [])):=λc u h=>(jh (je h k)).trans ((jh (je h D)).trans h)
 have d:=p _ _ R;refine⟨o,y,b,pl,pp,g,I,G,_,O,hs,rfl,jA,B1.same J,N,λz E j S Z=>⟨rfl,?_⟩⟩;have i:m≠o:=je d k;have e:j m=some (.ins t.jL a []):=S _ _ i (J _ _ d);have F:∀c u,H c=some u->j c=some u:=λc u h=>S _ _ (je (p _ _ h) k) (J _ _ (p _ _ h))
 exists⟨m,_,a,[],rfl,e,T.j3,T.JJ,(by show 0<1000;decide),?_⟩;generalize B:upd j m _=H4;have v:=qT B;have U:∀c u,c≠m->j c=some u->H4 c=some u:=λc u n h=>B▸(jh n).trans h
 clear B;have r:=Z.but e i U;let⟨dz,oz⟩:=r.ob;exists⟨m,_,a,_,_,rfl,v,T.j3,T.JJ,zH,?_⟩;exists⟨o,_,dz,_,_,rfl,oz,T.jU,T.Jd,zt,?_⟩;exists bU (bK.of r.hs) (we N.ne N.s.gl) ?_;exists⟨m,_,a,_,rfl,v,T.j3,T.Qy,(by show 1<1000;decide),?_⟩;generalize C:upd H4 m _=H5;have M:=qT C;have W:∀c u,c≠m->H4 c=some u->H5 c=some u:=λc u n h=>C▸(jh n).trans h
 clear C;exists⟨m,_,a,_,rfl,M,T.j3,T.JR,(by show 2<1000;decide),?_⟩;have X:∀c u,c≠m->H5 c=some u->upd H5 m (.ins t.jL a (iV o (O.getD (⇑(cK G Y)-1) 0) 0)) c=some u:=λc u n h=>(jh n).trans h
 refine q o z E _ (λc u n h=>X _ _ n (W _ _ n (U _ _ n (F _ _ h)))) (none_of p k) ⟨⟨a,jA⟩,(r.but v i W).but M i X,i⟩
def K4(T:Txt K mg t):1<*t.qB t.qD ["self","beat"] (ir t.jL t.jG):=by
 specialize T.wy.ok K8;let⟨m,k,z,i,j,g,E,l,b,rfl,A,e,f,q⟩:=h;refine⟨_,(jb (jM (yp (Bn xy xy jc (pv 1) (JG (pv 0) rfl)))
   (jf Yh)
   ju)
  (jf (Zw (pv 0) (pv 1) rfl))),?_⟩
 rotate_right 200
 let⟨a,d⟩:=A.ob;exists bT (λZ=>?_) (λc=>uf e c);exists⟨m,_,a,_,_,rfl,d,T.j3,T.Qy,FL,?_⟩;exists dI (λz=>uf f z) (λZ=>?_);exists⟨m,_,a,_,rfl,d,T.j3,T.JR,(by show 3<1000;decide),?_⟩;rw[GI];refine q _ (λc u n h=>(jh n).trans h) ⟨⟨a,jA⟩,A.sg.but d A.ne λc u n h=>(jh n).trans h,A.ne⟩
def K6(T:Txt K mg t):1<*t.JW t.JY ["_law_script","_law_k"] (Pr.dF K):=by
 specialize T.Jo.F.ok wb;let⟨a,g,k,rfl,b,f,d,q⟩:=h;refine⟨_,(jb (jM (jp Zj (pv 1) (jy jI (by rfl) T.Jl jZ (ja (pv 0) jd)) (bH _))
   (jf (jv (jg jw (pv 0) (pv 1))))
   ju)
  (jf (jv jc))),?_⟩
 rotate_right 200
 exists⟨_,_,rfl,.inl ⟨_,b,rfl⟩,?_⟩;exists bT (λc=>?_) (λc=>?_)
 .ac_nf;exact⟨a,_,k,_,rfl,rfl,b,Pr.Ig d (by rw[vt]at c;exact c),q⟩
 .ac_nf;have e:Pr.cell g k=0:=by
   rw[vt]at c;unfold Pr.cell;rw[vy,List.getElem?_eq_none ⋯];rfl
  rw[e]at q;exact q
def WF(T:Txt K mg t):1<*t.qd t.qj ["_law_cell","_law_k"] (kY):=by
 refine T.Jm.F.ok WN (λf H Q E h=>?_) (λe A d s H f Q E g h=>?_)
 .let⟨c,k,rfl,a,b,q⟩:=h;rfl
 let⟨c,k,rfl,a,b,q⟩:=h;refine⟨_,(jf (jv (jr j6 (jr qq (jr jQ (jr jQ (jr j6 (pv 0) (jr QN jc jc)) (jr qq (pv 1) (pv 1))) jc) jc) (jr jQ (jr QN jc jc) jc)))),?_⟩;refine jB (S':=[some _,some _]) rfl ?_
 try dsimp only[eF,Cx.lL]
 have j:=ve c (show(10^30:Int)≠0 by decide);have l:=vf c (show(0:Int)<10^30 by decide);have i:0<=k*k/\k*k<=10^40:=⟨Int.mul_nonneg a a,by have:=Int.mul_le_mul b b a nofun;lia⟩
 ac_nf;exact q
def WC(T:Txt K mg t)(f:1<*t.JW t.JY ["_law_script","_law_k"] (Pr.dF K))(e:1<*t.qd t.qj ["_law_cell","_law_k"] (kY)):2<*t.ZX t.Z4 ["_law_script","_law_j","_law_k"] (gw K):=by
 specialize T.ZQ.F.ok YY;let⟨a,c,j,k,rfl,d,b,m,n,o,p,q⟩:=h;refine⟨_,(jb (cj 3 YY.nd (jq T.Jm e hr (ja (jq T.Jo f hr (ja (pv 0) (ja (pv 1) jd))) (ja (pv 2) jd))))
  (jf (jv (jr qq (pv 3) (jq T.Jm e hr (ja (jq T.Jo f hr (ja (pv 0) (ja (jr jQ (pv 1) jc) jd))) (ja (jr jQ (pv 2) jc) jd))))))),?_⟩
 rotate_right 301
 have g:=Q4 (Pr.cell c j) k;have l:=Q4 (Pr.cell c (j+1)) (k+20);exists⟨a,c,_,rfl,d,b,⋯,?_⟩;exists⟨_,_,rfl,⋯,⋯,?_⟩;exists⟨a,c,_,rfl,d,b,⋯,?_⟩;exists⟨_,_,rfl,⋯,⋯,?_⟩;ac_nf;exact q
def XL(T:Txt K mg t):1<*t.Q0 t.Q3 ["_law_place","_law_k"] (fV):=by
 specialize T.QX.F.ok Eb;let⟨p,k,rfl,f,e,q⟩:=h;refine⟨_,(jf (jv (jr yf (jr yf (jr yf (Q5 Dz jD Zk (QU (pv 0))) (jg Xq jD (jr j6 (pv 1) jc))) (jg Xq jD (jr Jf (pv 1) jc))) (Q5 Dz jD (QU (pv 0)) Zk)))),?_⟩;refine jB (S':=[some _,some _]) rfl ?_
 try dsimp only[eF,Cx.lL]
 have j:(200:Nat)<sizeLine:=by decide
 have b:(Str.ofString "abcdefghijklnopqrstuvwxyz").cps.toList[((k%25:Nat):Int).toNat]?=some (A1.cps.toList.getD (k%25) 97):=by
  have l:(Str.ofString "abcdefghijklnopqrstuvwxyz").cps.toList.length=25:=by trivial
  show _=some ((Str.ofString "abcdefghijklnopqrstuvwxyz").cps.toList.getD (k%25) 97);rw[Int.toNat_natCast,vy,vz ⋯];rfl
 have g:(Txt.slice (Str.ofString "mm") none (some ((p:Nat):Int))).length<=4:=vW BD ∅;have i:(Txt.slice (Str.ofString "mm") (some ((p:Nat):Int)) none).length<=4:=vW BD ∅;have a:∀c,⇑(⟨#[c]⟩:Str)=1:=λc=>rfl
 exists⟨∅,?_⟩;ac_nf;rw[show((k:Nat):Int)%25=((k%25:Nat):Int) by lia];refine⟨_,_,_,rfl,rfl,∅,GD ⋯ b,?_⟩;refine⟨_,_,rfl,rfl,by rw[a];lia,?_⟩;ac_nf;have d:d0 (Str.ofString "nopq").cps.toList (((k:Nat):Int)/25)=some (if k<25 then 110 else 111):=by
  by_cases c:k<25
  .rw[vd c,show((k:Nat):Int)/25=0 by lia];decide +kernel
  .rw[vc c,show((k:Nat):Int)/25=1 by lia];decide +kernel
 refine⟨_,_,(if k<25 then 110 else 111),rfl,rfl,∅,?_,?_⟩
 .exact d
 refine⟨_,_,rfl,rfl,by rw[Str.length_append,a,a];lia,?_⟩;exists⟨∅,?_⟩;refine⟨_,_,rfl,rfl,by rw[Str.length_append,Str.length_append,a,a];lia,?_⟩;exact q
def WH(T:Txt K mg t):1<*t.zg t.zk ["_law_number","_law_names","_law_movers","_law_kind"] (gC):=by
 specialize T.zb.F.ok JU;let⟨n,nl,ml,a1,L,m,Ms,o,rfl,N,n1,n0,n2,hk,q⟩:=h;refine⟨_,(jb (cj 4 JU.nd (jN jd))
  (jb (jo (i:=5) JU.nd rfl (.inr rfl) (jN jd))
  (jb (j7 PassesOwn.never rfl (qP (by rfl) T.Qt (ja (jy jI (by rfl) T.Jl jZ (ja (pv 1) jd)) jd)) (cA 6 JU.nd)
   (jb (cj 7 JU.nd (jr j6 (jr JZ (jr JZ (jy jI (by rfl) T.Jl jZ (ja (pv 1) jd)) jc) (jr qq (pv 6) (jr jQ jc (jr j6 (pv 0) jc)))) (jy jI (by rfl) T.Jl jZ (ja (pv 1) jd))))
   (jb (X3 (i:=8) (ow:=["_law_one"]) (ci:=[5]) rfl (bM.of (bG zp) ["_law_number","_law_names","_law_movers","_law_kind","_law_some","_law_used","_law_j","_law_at","_law_twice"] rfl rfl ∅) (JM nofun) JU.nd rfl (.inl rfl) (jY (jg jw (pv 2) (pv 7))) (λ_ _ _ _ _=>⟨(cA 0 (jW ["_law_number","_law_names","_law_movers","_law_kind","_law_some","_law_used","_law_j","_law_at","_law_twice"] rfl ∅)),(XY (jp (Y9 (K:=K) rfl) (pv 0) (pv 1) (by with_unfolding_all rfl))),(pv 0)⟩))
   (jb (qH (PW.pt (Qc (jp j5 (pv 3) jD (bH _)) (qQ (jp Zj (pv 6) (jr jQ jc (jr j6 (jr Jf (pv 0) jc) jc)) (bH _)))))
    (jf (jR (Jy q3 q4 q5 jH (pv 4) (ja (jg jw (pv 1) (pv 7)) jd))))
    ju)
   (jf (jM (PW.pt (Qc (jp j5 (pv 3) jD (bH _)) (Qc (jp (XS hr.units) (jg jw (pv 2) (pv 7)) (jN jd) (bH _)) (Qc (jp (XR hr.units) (pv 8) (jN jd) (bH _)) (qQ (jp Zj (jy jI (by rfl) T.Jl jZ (ja (pv 4) jd)) jc (bH _)))))))
    (jb (jR (Jy q3 q4 q5 jH (pv 4) (ja (jg jw (pv 1) (pv 7)) jd)))
    (jf (jo (i:=5) JU.nd rfl (.inr rfl) (jr Y8 (pv 5) (jg jw (pv 2) (pv 7))))))
    ju))))))
  (jf (jv (Js qu (by rfl) T.Z3 zD (ja (pv 4) jd))))))),?_⟩
 rotate_right 405
 have a4:=N.sR;have m8:∀j,⇑(Ms.getD j [])<=8:=λj=>by
  by_cases h:j<⇑m
  .exact(N.mv h).choose_spec.2.2.1
  .rw[vy,List.getElem?_eq_none (by have:=N.ml;lia)];exact va _
 exists⟨va _,?_⟩;walk_at"f ps hps H1 s1 t1";exists⟨va _,?_⟩;walk_at"f pu hpu H2 s2 t2";have R:=s1.trans s2;have B:∀{c u},H c=some u->c≠ps:=λh=>je h hps
 have a3:pu≠ps:=(je t1 hpu).symm;exists⟨_,_,rfl,.inl ⟨_,bK.of (R _ _ N.en),rfl⟩,?_⟩;rw[vt];exists⟨_,rfl,⋯,⋯,?_⟩;refine QM (λt σ p=>i9 λ(o6 o7 o8:N3) (e:Addr)=>eE (σ=[~~~n,↥nl,↥ml,some (.str o),↥ps,↥e,o6,o7,o8]) (e≠ps) (∀c u,H c=some u->p c=some u) (p ps=some (.lst (((dX n ⇑m Ms (decide (o = "row")) t).1.map λj=>m.getD j ⟨#[]⟩).map V.str))/\p e=some (.lst ((dX n ⇑m Ms (decide (o = "row")) t).2.map V.str)))) ⟨_,_,_,pu,rfl,a3,R,s2 _ _ t1,t2⟩ ?_ ?_
 .rintro t σ H3 ht ⟨o6,o7,o8,e,rfl,g,C,I,X⟩;have m0:=ve n (show(3:Int)≠0 by decide);have m1:=vf n (show(0:Int)<3 by decide);exists⟨_,_,rfl,.inl ⟨_,bK.of (C _ _ N.en),rfl⟩,?_⟩;rw[vt];exists⟨_,_,rfl,.inl ⟨_,bK.of (C _ _ N.en),rfl⟩,?_⟩;rw[vt];ac_nf;have J:((⇑m:Int)-1-(0+(t:Int))*(1+n%3))%(⇑m:Int)=((kb n ⇑m t:Nat):Int):=by
   unfold kb;have a:=ve ((⇑m:Int)-1-(t:Int)*(1+n%3)) (show(⇑m:Int)≠0 by lia);rw[ux];lia
  rw[J];have W:=Ao (n:=n) (t:=t) n1;have d:=GJ (n:=n) (len:=⇑m) (Ms:=Ms) (ro:=decide (o = "row")) t;have us:=Dt (n:=n) (len:=⇑m) (ro:=decide (o = "row")) m8 t;have sl:=wk (n:=n) (len:=⇑m) (Ms:=Ms) (ro:=decide (o = "row")) t;generalize dX n ⇑m Ms (decide (o = "row")) t=S at I X d us sl;generalize kb n ⇑m t=j at W d|-;clear J;let⟨ma,a0,v,a2,mw⟩:=N.mv W;have aM:d0 (a1.map V.ref) ((j:Nat):Int)=↥ma:=jK (by rw[vv,a0];rfl);refine bU (bK.of (C _ _ N.em)) (aM) ?_;refine⟨ma,rfl,⟨_,bK.of (C _ _ v)⟩,?_⟩;refine JC (xs:=(Ms.getD j []).map V.str) (λi ys p=>ys=(((Ms.getD j []).take i).filter λs=>decide (s∈S.2)).map V.str/\H3=p) ⟨rfl,rfl⟩ ?_ ?_ ?_
  .rintro i ys p _ ⟨rfl,rfl⟩;exact bK.of (C _ _ v)
  .rintro i x ys p Y ⟨rfl,rfl⟩;rw[vv]at Y;let⟨k,M,rfl⟩:=vg.mp Y;have ik:=(vx.mp M).1;refine Jq (S':=[none,some _]) rfl ?_;exists⟨e,_,rfl,.inl (bK.of X),rfl,iP _,?_⟩;rw[ym];ac_nf;rw[take_snoc M,filter_append];have lf:⇑(((Ms.getD j []).take i).filter λs=>decide (s∈S.2))<=8:=vW (length_filter_le _ _) (by rw[vi];lia);refine bT (λc=>?_) (λc=>?_)
   .exists⟨by rw[vt];lia,?_,rfl⟩;rw[vj,v8,vd (vG c),filter_nil];rfl
   .refine⟨?_,rfl⟩;rw[v8,vc (by rw[vH c];exact vF),filter_nil,append_nil]
  rintro ys p ⟨rfl,rfl⟩;rw[show((Ms.getD j []).map V.str).length=⇑(Ms.getD j []) from vt _,v5];have lf:⇑((Ms.getD j []).filter λs=>decide (s∈S.2))<=8:=vW (length_filter_le _ _) a2;have wf:∀x∈(Ms.getD j []).filter (λs=>decide (s∈S.2)),Ws.fG x=true:=λx Y=>mw x (vP.mp Y).1
  refine⟨by rw[vt];lia,?_⟩;sleep 5;have k5:bI H H5:=λc u h=>s5 _ _ (C _ _ h)
  have y:=s5 _ _ I;have r:=s5 _ _ X;have n5:p5≠ps:=(je I hp5).symm;exists⟨λS' p=>dQ λ(U:L6)=>eE (S'=[~~~n,↥nl,↥ml,some (.str o),↥ps,↥e,some (.int (0+(t:Int))),some (.int (j:Nat)),↥p5]) (∀c u,c≠ps->H5 c=some u->p c=some u) (p ps=some (.lst ((U.map λj=>m.getD j ⟨#[]⟩).map V.str))) ((o = "row"->U=(dX n ⇑m Ms (decide (o = "row")) (t+1)).1/\(dX n ⇑m Ms (decide (o = "row")) (t+1)).2=S.2)/\(o≠"row"->U=S.1)),?_,?_⟩
  rotate_left
  .exists bT (λc=>?_) (λc=>?_)
   .rw[vd (vG c)]at d;exists bT (λc2=>?_) (λc2=>?_)
    .rw[vd ⋯]at d;exists⟨.inl ⟨rfl,_,bK.of y⟩,?_⟩;exists bU (bK.of (k5 _ _ N.en)) (Zc W) ?_;exists⟨ps,_,_,rfl,rfl,y,by rw[vt,vt];lia,?_⟩;refine⟨S.1++[j],rfl,λc u hc h=>(jh hc).trans h,?_,λ_=>by rw[d];exact⟨rfl,rfl⟩,λh=>uf c h⟩;rw[jA,vj,vj];rfl
    .rw[vc ⋯]at d;ac_nf;exact⟨S.1,rfl,λc u _ h=>h,y,λ_=>by rw[d];exact⟨rfl,rfl⟩,λh=>uf c h⟩
   .ac_nf;exact⟨S.1,rfl,λc u _ h=>h,y,λh=>uf h c,λ_=>rfl⟩
  rintro S' H6 ⟨U,rfl,G,D,O,F⟩;have l:bI H H6:=λc u h=>G _ _ (B h) (k5 _ _ h)
  exists bT (λc=>?_) (λc=>?_)
  .have nr:o≠"row":=λz=>by rw[z]at c;exact uf c ∅
   obtain rfl:=F nr;rw[vc (by rw[vH nr];exact vF)]at d;exists bU (bK.of (l _ _ N.em)) (aM) ?_;exists⟨va _,?_⟩;sleep 7;refine⟨_,_,.lst (s7 _ _ (l _ _ v)) (Z8 _),rM t7,mR mw,mQ,?_⟩;rw[mJ];exists dI (λd1=>?_) (λd1=>?_)
   .exists⟨va _,?_⟩;sleep 8;have f:=s7.trans s8;refine⟨_,_,.lst (f _ _ (G _ _ n5 t5)) (Z8 _),rM t8,mR wf,mQ,?_⟩;rw[mJ];exists bT (λd2=>?_) (λd2=>?_)
    .exists⟨_,_,rfl,.inl ⟨_,bK.of (f _ _ D),rfl⟩,?_⟩;rw[vt,vt];exists bT (λd3=>?_) (λd3=>?_)
     .rw[vd ⟨d1,d2,⋯⟩]at d;exists⟨.inl ⟨rfl,_,bK.of (f _ _ D)⟩,?_⟩;exists bU (bK.of (f _ _ (l _ _ N.en))) (Zc W) ?_;exists⟨ps,_,_,rfl,rfl,f _ _ D,by rw[vt,vt];lia,?_⟩;generalize eG:upd H8 ps _=H9;have e9:H9 ps=some (.lst (((S.1++[j]).map λj=>m.getD j ⟨#[]⟩).map V.str)):=by
       rw[vj,vj];exact qT eG
      have Z:∀c u,c≠ps->H6 c=some u->H9 c=some u:=λc u hc h=>eG▸(jh hc).trans (f c u h)
      clear eG;exists bU (bK.of (Z _ _ (B N.em) (l _ _ N.em))) (aM) ?_;refine⟨e,ma,_,_,rfl,rfl,Z _ _ g (G _ _ g r),Z _ _ (B v) (l _ _ v),by rw[vt,vt];lia,?_⟩;sleep 10;exists⟨_,_,_,p10,rfl,(je e9 hp10).symm,λc u h=>s10 _ _ (Z _ _ (B h) (l _ _ h)),by rw[d];exact s10 _ _ e9,by rw[d,vj];exact t10⟩
     .rw[vc (λz=>d3 ⋯)]at d;ac_nf;exact⟨_,_,_,e,rfl,g,λc u h=>f _ _ (l _ _ h),by rw[d];exact f _ _ D,by rw[d];exact f _ _ (G _ _ g r)⟩
    .rw[vc (λz=>d2 z.2.1)]at d;ac_nf;exact⟨_,_,_,e,rfl,g,λc u h=>f _ _ (l _ _ h),by rw[d];exact f _ _ D,by rw[d];exact f _ _ (G _ _ g r)⟩
   .rw[vc (λz=>z.1 d1)]at d;ac_nf;exact⟨_,_,_,e,rfl,g,λc u h=>s7 _ _ (l _ _ h),by rw[d];exact s7 _ _ D,by rw[d];exact s7 _ _ (G _ _ g r)⟩
  .have cr:o = "row":=hk.resolve_right c;let⟨r1,r2⟩:=O cr;ac_nf;exact⟨_,_,_,e,rfl,g,l,by rw[<-r1];exact D,by rw[r2];exact G _ _ g r⟩
 .rintro σ p ⟨o6,o7,o8,e,rfl,g,C,I,X⟩;exists⟨ps,_,rfl,.inl ⟨bK.of I,?_⟩⟩;walk_at"f b hb H3 s3 t3";exact q b H3 (λc u h=>s3 _ _ (C _ _ h)) t3
def XC(T:Txt K mg t)(M:1<*t.zg t.zk ["_law_number","_law_names","_law_movers","_law_kind"] (gC)):2<*t.yS t.yZ ["_law_number","_law_names","_law_movers","_law_limbs","_law_bounds"] (ig):=by
 specialize T.KP.F.ok qR;let⟨n,C,I,pl,bd,p,ac,B,d,Ms,b0,b1,b2,b3,b4,rfl,N,L,Bd,n0,n2,q⟩:=h;refine⟨_,(jb (cj 5 qR.nd (jr j6 (pv 0) jc))
  (jb (cj 6 qR.nd (jr Jf (pv 0) jc))
  (jb (cj 7 qR.nd (jr jQ jc (jr j6 (jr Jf (pv 0) (jr QN jc jc)) (jg jw (pv 4) (jr j6 (jr Jf (pv 0) jc) jc)))))
  (jb (qH (PW.pt (Qc (jp (XR hr.units) (pv 1) (jN jd) (bH _)) (qQ (jp yE (pv 5) jc (bH _)))))
   (jf (cj 5 qR.nd (jr j6 (jr Jf (pv 0) jc) jc)))
   ju)
  (jb (jM (jp Zj (pv 5) jc (bH _))
   (jf (jv (jJ (ja jD (ja (jg jk (jg jw (pv 3) (jr j6 (pv 6) (jy jI (by rfl) T.Jl jZ (ja (pv 3) jd)))) jc) (ja (jr j6 (jr Jf (pv 6) jc) (jg jw (pv 4) jc)) (ja (pv 7) jd)))))))
   ju)
  (jb (jM (jp j5 (pv 5) jc (bH _))
   (jf (jv (jJ (ja jD (ja (jg jw (jr Y8 (jr Y8 (jN (ja jD (ja jD jd))) (Q5 Cg (pv 1) Zk (QU jc))) (jN (ja jD jd))) (jr j6 (pv 6) jc)) (ja (pv 7) jd))))))
   ju)
  (jb (jM (jp j5 (pv 5) jc (bH _))
   (jf (jv (jJ (ja jD (ja (jq T.zb M hr (ja (pv 6) (ja (pv 1) (ja (pv 2) (ja jD jd))))) jd)))))
   ju)
  (jb (jM (PW.pt (Qc (jp j5 (pv 5) jc (bH _)) (qQ (jp yE (jy jI (by rfl) T.Jl jZ (ja (jq T.zb M hr (ja (pv 6) (ja (pv 1) (ja (pv 2) (ja jD jd))))) jd)) jc (bH _)))))
   (jf (jv (jJ (ja jD (ja (jq T.zb M hr (ja (pv 6) (ja (pv 1) (ja (pv 2) (ja jD jd))))) jd)))))
   ju)
  (jb (jM (jp j5 (pv 5) jc (bH _))
   (jb (cj 8 qR.nd (jr JZ (jr JZ (jy jI (by rfl) T.Jl jZ (ja (pv 1) jd)) jc) (jr j6 (pv 6) (jy (YB rfl) (by rfl) T.uw xW (ja jc (ja (jy jI (by rfl) T.Jl jZ (ja (pv 1) jd)) jd))))))
   (jf (jv (jJ (ja jD (ja (jr jQ jc (jr j6 (jr Jf (pv 0) (jr QN jc jc)) (jg jw (pv 4) jc))) (ja (jg jw (pv 1) (pv 8)) jd)))))))
   ju)
  (jf (jv (jJ (ja jD (ja (pv 7) jd)))))))))))))),?_⟩
 rotate_right 504
 have ad:=N.sR;have l1:=L.l1;have a1:=L.la.1;let⟨eb,O,R,S,U,a2,a3,a4,a5,a6,a7⟩:=Bd;have k0:=ve n (show(8:Int)≠0 by decide);have k1:=vf n (show(0:Int)<8 by decide);have i0:=ve (n/8) (show(2:Int)≠0 by decide);have i1:=vf (n/8) (show(0:Int)<2 by decide);let⟨m,X,a8,a9⟩:=qa (b2:=b2) (b3:=b3) (b4:=b4) ⟨O,R⟩ ⟨S,U⟩ i0 i1;have m0:0<=n/100:=⋯
 have m1:n/100<=10^40:=⋯
 have v0:=ve (n/10^12) (show m≠0 by lia);have v1:=vf (n/10^12) (show 0<m by lia);exists Dx ?_;exists bU (bK.of eb) (X) ?_;exists⟨λS' H'=>dQ λ(y:Int)=>eE (S'=[~~~n,↥C,↥I,↥pl,↥bd,~~~y,some (.int (n/100)),some (.int (1+n/10^12%m)),none]) (bI H H') (0<=y) (y<8/\(4<y->1<=⇑d)),?_,?_⟩
 rotate_left
 .exists⟨va _,?_⟩;walk_at"f e3 he3 H3 s3 t3";refine⟨_,_,.lst (s3 _ _ N.en) (Z8 _),rM t3,mR N.w,mQ,?_⟩;rw[mJ];exists bT (λc=>?_) (λc=>?_)
  .exists bT (λc2=>?_) (λc2=>?_)
   .ac_nf;have F:=ve (n/16) (show(5:Int)≠0 by decide);have w1:=vf (n/16) (show(0:Int)<5 by decide);exact⟨_,rfl,s3,F,⋯,λh=>uf h ⋯⟩
   .ac_nf;exact⟨_,rfl,s3,k0,k1,λh=>uf h c2⟩
  .ac_nf;exact⟨_,rfl,s3,k0,k1,λ_=>length_pos_iff.mpr c⟩
 rintro S' H1 ⟨y,rfl,f,aa,ab,kn⟩;have l:=N.same f;have g:=L.same f;have u:=f _ _ eb;exists bT (λc=>?_) (λc=>?_)
 .exists⟨_,_,rfl,.inl ⟨_,bK.of g.el,rfl⟩,?_⟩;rw[vt,a1];ac_nf;have F:=ve (n/100) (show(⇑B:Int)≠0 by lia);have w1:=vf (n/100) (show(0:Int)<(⇑B:Int) by lia);generalize n/100%(⇑B:Int)=r at F w1|-;obtain⟨j,rfl⟩:∃j:Nat,r=(j:Int):=⟨r.toNat,⋯⟩
  have x:j<⇑B:=⋯
  let⟨lk,Z,Y⟩:=g.la.get (vz x);refine bU (bK.of g.el) (jK (j:=j) (by rw[vv,Z];rfl)) ?_;exists bO Y ?_;exists bU (bK.of u) rfl ?_;ac_nf;have h0:=ve (n/100/10) (show b2≠0 by lia);have h1:=vf (n/100/10) (show 0<b2 by lia);refine⟨ub,?_⟩;walk_at"f b6 hb6 H6 s6 t6";refine q b6 (.rise B[j].1 (n/100/10%b2) (1+n/10^12%m)) H6 (f.trans s6) t6 ⟨⟨j,?_⟩,h0,⋯,⋯,⋯⟩;unfold bF;rw[vv,vz x];rfl
 exists bT (λc4=>?_) (λc4=>?_)
 .exists⟨ud,?_⟩;walk_at"f b3 hb3 H3 s3 t3";exists⟨C,_,rfl,bK.of (s3 _ _ l.en),?_⟩;walk_at"f b4 hb4 H4 s4 t4";have cl:=Ze (d.map V.str) none (some 1);rw[vt]at cl;refine⟨b3,b4,_,_,rfl,rfl,s4 _ _ t3,t4,by show 2+_<=sizeLine;lia,?_⟩;walk_at"f b5 hb5 H5 s5 t5";exists⟨ue,?_⟩;walk_at"f b6 hb6 H6 s6 t6";refine⟨b5,b6,_,_,rfl,rfl,s6 _ _ t5,t6,by rw[vn];show 2+_+1<=sizeLine;lia,?_⟩;walk_at"f b7 hb7 H7 s7 t7";ac_nf;have F:=ve (n/100) (show(3:Int)≠0 by decide);have w1:=vf (n/100) (show(0:Int)<3 by decide);have a0:∀v∈[V.str "ding",V.str "dong"]++gh (d.map V.str) none (some 1)++[V.str "din"],∃w:Str,v = .str w/\Ws.fG w=true:=λv hv=>by
   rcases vh.mp hv with z | z
   .rcases vh.mp z with z | z
    .rcases mem_cons.mp z with rfl | z
     .exact⟨_,rfl,by trivial⟩
     .rw[vo.mp z];exact⟨_,rfl,by trivial⟩
    .let⟨J,o,rfl⟩:=vK.mp (Cu z);exact⟨J,rfl,N.w J o⟩
   .rw[vo.mp z];exact⟨_,rfl,by trivial⟩
  let⟨J,o,ww⟩:=Bw (k:=n/100%3) a0 F (by rw[vn,vn];show _<(((2+_+1:Nat)):Int);lia);refine bU (bK.of t7) (o) ?_;exists⟨uc,?_⟩;walk_at"f b8 hb8 H8 s8 t8";exact q b8 (.ring J (1+n/10^12%m)) H8 (f.trans (s3.trans (s4.trans (s5.trans (s6.trans (s7.trans s8)))))) t8 ⟨⋯,⋯,ww⟩
 exists bT (λc5=>?_) (λc5=>?_)
 .have e:=kn ⋯;exists⟨_,C,I,p,_,d,Ms,"row",rfl,l,e,m0,m1,.inl rfl,λb2 H2 D W=>?_⟩;exists⟨ud,?_⟩;walk_at"f b6 hb6 H6 s6 t6";have ln:=wk (n:=n/100) (len:=⇑d) (Ms:=Ms) (ro:=decide (("row" : Str) = "row")) ⇑d;refine q b6 (.row (dX (n/100) ⇑d Ms (decide (("row" : Str) = "row")) ⇑d).1) H6 (f.trans (D.trans s6)) ⟨b2,t6,s6 _ _ W⟩ ⟨Ds ∅ _ e,⋯,Ac e _⟩
 exists bT (λc6=>?_) (λc6=>?_)
 .have e:=kn ⋯;exists⟨_,C,I,p,_,d,Ms,"side",rfl,l,e,m0,m1,.inr rfl,λb2 H2 D W=>?_⟩;have ln:=wk (n:=n/100) (len:=⇑d) (Ms:=Ms) (ro:=decide (("side" : Str) = "row")) ⇑d;refine⟨_,_,rfl,.inr ⟨_,bV.of W,rfl⟩,?_⟩;rw[vt,vt];exists bT (λc7=>?_) (λc7=>?_)
  .exists⟨_,C,I,p,_,d,Ms,"side",rfl,l.same D,e,m0,m1,.inr rfl,λb3 H3 s3 e3=>?_⟩;exists⟨ud,?_⟩;walk_at"f b6 hb6 H6 s6 t6";refine q b6 (.side (dX (n/100) ⇑d Ms (decide (("side" : Str) = "row")) ⇑d).1) H6 (f.trans (D.trans (s3.trans s6))) ⟨b3,t6,s6 _ _ e3⟩ ⟨⋯,⋯,Ac e _,(Dr ∅ _).1.n N.il⟩
  .exists bT (λG=>?_) (λG=>?_)
   .exact uf G ⋯
   exists⟨ud,?_⟩;walk_at"f b6 hb6 H6 s6 t6";exact q b6 (.hold (1+n/10^12%m)) H6 (f.trans (D.trans s6)) t6 ⟨⋯,⋯⟩
 refine fH ?_;exists bT (λG=>?_) (λG=>?_)
 .have e:=kn ⋯;exists⟨_,_,rfl,.inl ⟨_,bK.of l.en,rfl⟩,?_⟩;rw[vt];exists⟨_,_,rfl,.inl ⟨_,bK.of l.en,rfl⟩,?_⟩;rw[vt];refine⟨_,_,rfl,?_⟩;dsimp only;ac_nf;obtain⟨j,ej,x⟩:∃j:Nat,(⇑d:Int)-1-n/100%(if(⇑d:Int)<3 then(⇑d:Int)else 3)=(j:Int)/\j<⇑d:=by
   have a:=ve (n/100) (show(if(⇑d:Int)<3 then(⇑d:Int)else 3)≠0 by split<;>lia);have b:=vf (n/100) (show 0<(if(⇑d:Int)<3 then(⇑d:Int)else 3) by split<;>lia);generalize n/100%(if(⇑d:Int)<3 then(⇑d:Int)else 3)=z at a b|-;refine⟨((⇑d:Int)-1-z).toNat,?_,?_⟩
   .split at b<;>lia
   .split at b<;>lia
  rw[ej];refine Dx ?_;exists bU (bK.of u) rfl ?_;ac_nf;have h0:=ve (n/10^12) (show b3≠0 by lia);have h1:=vf (n/10^12) (show 0<b3 by lia);refine bU (bK.of l.en) (Zc x) ?_;exists⟨uc,?_⟩;walk_at"f b6 hb6 H6 s6 t6";exact q b6 (.again (1+n/10^12%b3) j) H6 (f.trans s6) t6 ⟨⋯,⋯,x⟩
 exists⟨ud,?_⟩;walk_at"f b6 hb6 H6 s6 t6";exact q b6 (.hold (1+n/10^12%m)) H6 (f.trans s6) t6 ⟨⋯,⋯⟩
def XH(T:Txt K mg t):1<*t.Qi t.Qk ["_law_form_here","_law_known_here"] (fg):=by
 specialize T.Qg.F.ok Ea;let⟨C,d,f,o,F,L,M,rfl,y,J,U,W,p,N,q⟩:=h;refine⟨_,(jb (jM (jp j5 (jg jk (pv 0) jc) jD (bH _))
   (jf (jv (jy (zr rfl) (by rfl) T.WX Kr (ja (Jj (ow:=["_law_name"]) (ci:=[1]) rfl (bM.of (bG Q7) ["_law_form_here","_law_known_here"] rfl rfl ∅) (JM nofun) (yg (jg jk (pv 0) jc)) (λ_ _ _ _ _=>⟨(cA 0 (jW ["_law_form_here","_law_known_here"] rfl ∅)),JS,(JN (Jz hr) (pv 1) (pv 0))⟩)) jd))))
   ju)
  (jb (jM (jp j5 (jg jk (pv 0) jc) jD (bH _))
   (jf (jv (jy (Ks rfl) (by rfl) T.uv xV (ja (Jj (ow:=["_law_name"]) (ci:=[1]) rfl (bM.of (bG Q7) ["_law_form_here","_law_known_here"] rfl rfl ∅) (JM nofun) (yg (jg jk (pv 0) jc)) (λ_ _ _ _ _=>⟨(cA 0 (jW ["_law_form_here","_law_known_here"] rfl ∅)),JS,(JN (Jz hr) (pv 1) (pv 0))⟩)) jd))))
   ju)
  (jb (jM (jp j5 (jg jk (pv 0) jc) jD (bH _))
   (jf (jv (jr qq (jg jk (pv 0) jc) (JN (Jz hr) (pv 1) (jg jk (pv 0) jc)))))
   ju)
  (jf (jv (jg jk (pv 0) (jr JZ (jy jI (by rfl) T.Jl jZ (ja (pv 0) jd)) jc))))))),?_⟩
 rotate_right 200
 have u:∀j,j<⇑o->cM H d (.str (o.getD j ⟨#[]⟩)) (some (.int (F.getD j 0))):=λj l=>by
  have g:=cM.k (k:=Sum.inr (o.getD j ⟨#[]⟩)) J;rw[kH U W l]at g;exact g
 let⟨D,c⟩:=p.js;cases f with
 | hold n=>
  have a:H C=some (.tup _):=y;exists bO a ?_;exists bQ ?_;exists bO a ?_;exists bQ ?_;exists bO a ?_;exists bQ ?_;exists⟨_,_,rfl,.inr ⟨_,bV.of a,rfl⟩,?_⟩;exists bO a ?_;exact q _ H (bI.refl _) rfl
 | ring x n=>
  have a:H C=some (.tup _):=y;exists bO a ?_;exists bQ ?_;exists bO a ?_;exists bQ ?_;exists bO a ?_;exists bQ ?_;exists⟨_,_,rfl,.inr ⟨_,bV.of a,rfl⟩,?_⟩;exists bO a ?_;exact q _ H (bI.refl _) rfl
 | rise x h n=>
  have a:H C=some (.tup _):=y;exists bO a ?_;exists bQ ?_;exists bO a ?_;exists bQ ?_;exists bO a ?_;exists bQ ?_;exists⟨_,_,rfl,.inr ⟨_,bV.of a,rfl⟩,?_⟩;exists bO a ?_;exact q _ H (bI.refl _) rfl
 | row is=>
  let⟨b,a,z⟩:=y;have D:⇑is<=8:=D;have c:∀j∈is,j<⇑o:=c;exists bO a ?_;exists cF ?_;exists bO a ?_;refine⟨b,rfl,⟨_,bV.of z⟩,?_⟩;refine Qu (xs:=(is.map λj=>o.getD j ⟨#[]⟩).map V.str) (λt r m=>r=((is.take t).map λj=>F.getD j 0).map V.int/\H=m) ⟨rfl,rfl⟩ ?_ ?_ ?_
  .rintro t r m _ ⟨rfl,rfl⟩;exact bV.of z
  .rintro t v r m B ⟨rfl,rfl⟩;rw[vv,vv]at B;let⟨x,G,rfl⟩:=vg.mp B;let⟨j,l,rfl⟩:=vg.mp G;have S:=(vx.mp l).1;refine Jq (S':=[none,↥d]) rfl ?_;exists dq ?_;exists⟨d,_,rfl,u j (c j (vm l)),?_⟩;refine⟨by rw[vt,vt,vi];lia,?_,rfl⟩;rw[take_snoc l,vj,vj];rfl
  rintro r m ⟨rfl,rfl⟩;rw[show((is.map λj=>o.getD j ⟨#[]⟩).map V.str).length=⇑is by rw[vt,vt],v5];refine⟨by rw[vt,vt];lia,?_⟩;sleep 1;exists⟨p1,_,rfl,bK.of t1,?_⟩;exact q _ H1 s1 rfl
 | side is=>
  let⟨b,a,z⟩:=y;have D:⇑is<=8:=D;have c:∀j∈is,j<⇑o:=c;have Y:=p.1;exists bO a ?_;exists bQ ?_;exists bO a ?_;exists cF ?_;exists bO a ?_;refine⟨b,rfl,⟨_,bV.of z⟩,?_⟩;refine Qu (xs:=(is.map λj=>o.getD j ⟨#[]⟩).map V.str) (λt r m=>r=((is.take t).map λj=>F.getD j 0).map V.int/\H=m) ⟨rfl,rfl⟩ ?_ ?_ ?_
  .rintro t r m _ ⟨rfl,rfl⟩;exact bV.of z
  .rintro t v r m B ⟨rfl,rfl⟩;rw[vv,vv]at B;let⟨x,G,rfl⟩:=vg.mp B;let⟨j,l,rfl⟩:=vg.mp G;have S:=(vx.mp l).1;refine Jq (S':=[none,↥d]) rfl ?_;exists dq ?_;exists⟨d,_,rfl,u j (c j (vm l)),?_⟩;refine⟨by rw[vt,vt,vi];lia,?_,rfl⟩;rw[take_snoc l,vj,vj];rfl
  rintro r m ⟨rfl,rfl⟩;rw[show((is.map λj=>o.getD j ⟨#[]⟩).map V.str).length=⇑is by rw[vt,vt],v5];refine⟨by rw[vt,vt];lia,?_⟩;sleep 1;exists⟨p1,_,rfl,bK.of t1,by rw[vt];lia,λg O R=>?_⟩;let⟨j,l,e⟩:=vK.mp O;exact q g H1 s1 ⟨⟨j,l,e.symm⟩,λj l=>R _ (vK.mpr ⟨j,l,rfl⟩)⟩
 | again k j=>
  have a:H C=some (.tup _):=y;have I:=c j vq;have X:=N j I;have Z:=p.1;have k2:=p.2.1;exists bO a ?_;exists bQ ?_;exists bO a ?_;exists bQ ?_;exists bO a ?_;exists cF ?_;exists bO a ?_;exists bO a ?_;exists⟨d,_,rfl,u j I,?_⟩;ac_nf;exact q _ H (bI.refl _) rfl
def WG(T:Txt K mg t):1<*t.Qs t.Qw ["_law_form_here","_law_names","_law_movers"] (fq):=by
 specialize T.ZR.F.ok JT;let⟨C,G,R,a7,f,I,Ms,L,M,rfl,X,en,em,aM,nd,ln,ac,J,k4,q⟩:=h;refine⟨_,(jb (jM (jp j5 (jg jk (pv 0) jc) jD (bH _))
   (jf (jv (jN (ja (jg jk (pv 0) jc) jd))))
   ju)
  (jb (cj 3 JT.nd (jN jd))
  (jb (qH (PW.pt (YW (jp j5 (jg jk (pv 0) jc) jD (bH _)) (Yj (jp j5 (jg jk (pv 0) jc) jD (bH _)))))
   (jf (cj 3 JT.nd (Js zi (by rfl) T.Kq Yz (ja (jg jk (pv 0) jc) jd))))
   ju)
  (jb (qH (jp j5 (jg jk (pv 0) jc) jD (bH _))
   (jf (cj 3 JT.nd (jN (ja (jg jk (pv 0) jc) jd))))
   ju)
  (jb (cj 4 JT.nd (jN jd))
  (jb (j7 PassesOwn.never rfl (jY (pv 3)) (cA 5 JT.nd)
   (jf (j7 PassesOwn.never rfl (jY (jg jw (pv 2) (Jy q3 PySem.F.slot_list_index PySem.F.type_list_index E4 (pv 1) (ja (pv 5) jd)))) (cA 6 JT.nd)
    (jf (jM (jp XT (pv 6) (pv 4) (by with_unfolding_all rfl))
     (jf (jR (Jy q3 q4 q5 jH (pv 4) (ja (pv 6) jd))))
     ju)))))
  (jf (jv (pv 4))))))))),?_⟩
 rotate_right 304
 cases f
 case rise x h n=>
  have o:H C=some (.tup _):=X;exists bO o ?_;exists cF ?_;exists bO o ?_;exists⟨ue,?_⟩;sleep 1;refine q p1 [x] H1 s1 hp1 t1 ⟨pairwise_singleton _ _,λs=>?_⟩ (by show 1<=80;decide);rw[vo];constructor
  .rintro rfl;exact .inr ⟨h,n,rfl⟩
  .rintro(⟨j,hj,_⟩ | ⟨h',n',e⟩)
   .exact nomatch hj
   .injection e with e1;exact e1.symm
 case' hold n=>
  have o:H C=some (.tup _):=X;exists bO o ?_;exists bQ ?_;exists⟨va _,?_⟩;sleep 1;have l:=s1 _ _ o;exists⟨λS' g=>dQ λ(d:Addr)=>dH (S'=[↥C,↥G,↥R,↥d,none,none,none]) (bI H g/\g d=some (.lst (((sX (Fn.hold n)).map λj=>I.getD j ⟨#[]⟩).map V.str))),?_,?_⟩
  rotate_left
  .exists bO l ?_;exists bQ ?_;exists bO l ?_;exists bQ ?_;ac_nf;exact⟨p1,rfl,s1,t1⟩
  rintro S' H2 ⟨p2,rfl,m,e2⟩;have r:=m _ _ o;exists⟨λS' g=>dQ λ(d:Addr)=>dH (S'=[↥C,↥G,↥R,↥d,none,none,none]) (bI H g/\g d=some (.lst (((Fn.hold n).js.map λj=>I.getD j ⟨#[]⟩).map V.str))),?_,?_⟩
  rotate_left
  .exists bO r ?_;exists bQ ?_;ac_nf;exact⟨p2,rfl,m,e2⟩
  rintro S' H3 ⟨d,rfl,D,O⟩;have W:∀Z u1 u2,(Fn.hold n)≠.rise Z u1 u2:=λ_ _ _ z=>by cases z
  clear X;generalize(Fn.hold n)=f at O W J q
 case' ring x n=>
  have o:H C=some (.tup _):=X;exists bO o ?_;exists bQ ?_;exists⟨va _,?_⟩;sleep 1;have l:=s1 _ _ o;exists⟨λS' g=>dQ λ(d:Addr)=>dH (S'=[↥C,↥G,↥R,↥d,none,none,none]) (bI H g/\g d=some (.lst (((sX (Fn.ring x n)).map λj=>I.getD j ⟨#[]⟩).map V.str))),?_,?_⟩
  rotate_left
  .exists bO l ?_;exists bQ ?_;exists bO l ?_;exists bQ ?_;ac_nf;exact⟨p1,rfl,s1,t1⟩
  rintro S' H2 ⟨p2,rfl,m,e2⟩;have r:=m _ _ o;exists⟨λS' g=>dQ λ(d:Addr)=>dH (S'=[↥C,↥G,↥R,↥d,none,none,none]) (bI H g/\g d=some (.lst (((Fn.ring x n).js.map λj=>I.getD j ⟨#[]⟩).map V.str))),?_,?_⟩
  rotate_left
  .exists bO r ?_;exists bQ ?_;ac_nf;exact⟨p2,rfl,m,e2⟩
  rintro S' H3 ⟨d,rfl,D,O⟩;have W:∀Z u1 u2,(Fn.ring x n)≠.rise Z u1 u2:=λ_ _ _ z=>by cases z
  clear X;generalize(Fn.ring x n)=f at O W J q
 case' row is=>
  let⟨b,o,hb⟩:=X;exists bO o ?_;exists bQ ?_;exists⟨va _,?_⟩;sleep 1;have l:=s1 _ _ o;exists⟨λS' g=>dQ λ(d:Addr)=>dH (S'=[↥C,↥G,↥R,↥d,none,none,none]) (bI H g/\g d=some (.lst (((sX (Fn.row is)).map λj=>I.getD j ⟨#[]⟩).map V.str))),?_,?_⟩
  rotate_left
  .exists bO l ?_;exists cF ?_;refine dq ?_;exists bO l ?_;exists⟨b,_,rfl,.inr (bV.of (s1 _ _ hb)),?_⟩;sleep 2;ac_nf;exact⟨p2,rfl,s1.trans s2,t2⟩
  rintro S' H2 ⟨p2,rfl,m,e2⟩;have r:=m _ _ o;exists⟨λS' g=>dQ λ(d:Addr)=>dH (S'=[↥C,↥G,↥R,↥d,none,none,none]) (bI H g/\g d=some (.lst (((Fn.row is).js.map λj=>I.getD j ⟨#[]⟩).map V.str))),?_,?_⟩
  rotate_left
  .exists bO r ?_;exists bQ ?_;ac_nf;exact⟨p2,rfl,m,e2⟩
  rintro S' H3 ⟨d,rfl,D,O⟩;have W:∀Z u1 u2,(Fn.row is)≠.rise Z u1 u2:=λ_ _ _ z=>by cases z
  generalize(Fn.row is)=f at O W J q;clear o hb
 case' side is=>
  let⟨b,o,hb⟩:=X;exists bO o ?_;exists bQ ?_;exists⟨va _,?_⟩;sleep 1;have l:=s1 _ _ o;exists⟨λS' g=>dQ λ(d:Addr)=>dH (S'=[↥C,↥G,↥R,↥d,none,none,none]) (bI H g/\g d=some (.lst (((sX (Fn.side is)).map λj=>I.getD j ⟨#[]⟩).map V.str))),?_,?_⟩
  rotate_left
  .exists bO l ?_;exists bQ ?_;exists bO l ?_;exists cF ?_;exists bO l ?_;exists⟨b,_,rfl,.inr (bV.of (s1 _ _ hb)),?_⟩;sleep 2;ac_nf;exact⟨p2,rfl,s1.trans s2,t2⟩
  rintro S' H2 ⟨p2,rfl,m,e2⟩;have r:=m _ _ o;exists⟨λS' g=>dQ λ(d:Addr)=>dH (S'=[↥C,↥G,↥R,↥d,none,none,none]) (bI H g/\g d=some (.lst (((Fn.side is).js.map λj=>I.getD j ⟨#[]⟩).map V.str))),?_,?_⟩
  rotate_left
  .exists bO r ?_;exists bQ ?_;ac_nf;exact⟨p2,rfl,m,e2⟩
  rintro S' H3 ⟨d,rfl,D,O⟩;have W:∀Z u1 u2,(Fn.side is)≠.rise Z u1 u2:=λ_ _ _ z=>by cases z
  generalize(Fn.side is)=f at O W J q;clear o hb
 case' again k j=>
  have o:H C=some (.tup _):=X;exists bO o ?_;exists bQ ?_;exists⟨va _,?_⟩;sleep 1;have l:=s1 _ _ o;exists⟨λS' g=>dQ λ(d:Addr)=>dH (S'=[↥C,↥G,↥R,↥d,none,none,none]) (bI H g/\g d=some (.lst (((sX (Fn.again k j)).map λj=>I.getD j ⟨#[]⟩).map V.str))),?_,?_⟩
  rotate_left
  .exists bO l ?_;exists bQ ?_;exists bO l ?_;exists bQ ?_;ac_nf;exact⟨p1,rfl,s1,t1⟩
  rintro S' H2 ⟨p2,rfl,m,e2⟩;have r:=m _ _ o;exists⟨λS' g=>dQ λ(d:Addr)=>dH (S'=[↥C,↥G,↥R,↥d,none,none,none]) (bI H g/\g d=some (.lst (((Fn.again k j).js.map λj=>I.getD j ⟨#[]⟩).map V.str))),?_,?_⟩
  rotate_left
  .exists bO r ?_;exists cF ?_;exists bO r ?_;exists⟨ue,?_⟩;sleep 3;ac_nf;exact⟨p3,rfl,m.trans s3,t3⟩
  rintro S' H3 ⟨d,rfl,D,O⟩;have W:∀Z u1 u2,(Fn.again k j)≠.rise Z u1 u2:=λ_ _ _ z=>by cases z
  clear X;generalize(Fn.again k j)=f at O W J q
 all_goals
  let⟨j8,a8⟩:=J.js;exists⟨va _,?_⟩;walk_at"f pf hpf H4 s4 t4";have a3:=D.trans s4;have mf:∀{c u},H c=some u->c≠pf:=λh=>je (D _ _ h) hpf
  have a9:d≠pf:=je O hpf;have aa:=aM.1;exists⟨d,rfl,⟨_,bK.of (s4 _ _ O)⟩,?_⟩;refine Jw (xs:=(f.js.map λj=>I.getD j ⟨#[]⟩).map V.str) (λt σ g=>fZ λ(o5 Y:N3) (U:L8)=>i7 (σ=[↥C,↥G,↥R,↥d,↥pf,o5,Y]) (∀c u,c≠pf->H4 c=some u->g c=some u) (g pf=some (.lst (U.map V.str))) U.Nodup (⇑U<=8*t) (∀s,s∈U↔∃j∈f.js.take t,s∈Ms.getD j [])) ⟨_,_,[],rfl,λc u _ h=>h,t4,.nil,vb _,λs=>⟨(λh=>nomatch h),λ⟨j,hj,_⟩=>nomatch hj⟩⟩ ?_ ?_ ?_
  .rintro t σ g _ ⟨o5,Y,U,rfl,sm,_⟩;exact bK.of (sm _ _ a9 (s4 _ _ O))
  .rintro t v σ H5 hv ⟨o5,Y,U,rfl,sm,e5,a2,kl,S⟩;rw[vv,vv]at hv;let⟨x,hx,rfl⟩:=vg.mp hv;let⟨j,hj,rfl⟩:=vg.mp hx;have tl:=(vx.mp hj).1;have jl:=a8 j (vm hj);let⟨l1,l2,l3⟩:=sO nd jl;have a4:Ms[j]?=some (Ms.getD j []):=by rw[vy,vz ⋯];rfl
   have ab:=k4 _ (vm a4);obtain⟨ma,a5⟩:∃ma,a7[j]?=some ma:=⟨_,vz ⋯⟩
   have a0:=aM.2 j ma _ a5 a4;have k5:∀{c u},H c=some u->H5 c=some u:=λh=>sm _ _ (mf h) (a3 _ _ h)
   exists⟨.inl ⟨rfl,_,bK.of (k5 en)⟩,?_⟩;exists⟨G,_,.str _,.str _,j,rfl,rfl,bK.of (k5 en),rfl,iP _,l1,l2,l3,?_⟩;exists bU (bK.of (k5 em)) (jK (show(a7.map V.ref)[j]?=↥ma by rw[vv,a5];rfl)) ?_;refine⟨ma,rfl,⟨_,bK.of (k5 a0)⟩,?_⟩;refine Jw (xs:=(Ms.getD j []).map V.str) (λu σ g=>fE λ(Y:N3) (B:L8)=>i7 (σ=[↥C,↥G,↥R,↥d,↥pf,some (.str (I.getD j ⟨#[]⟩)),Y]) (∀c u,c≠pf->H4 c=some u->g c=some u) (g pf=some (.lst (B.map V.str))) B.Nodup (⇑B<=8*t+u) (∀s,s∈B↔s∈U\/s∈(Ms.getD j []).take u)) ⟨_,U,rfl,sm,e5,a2,kl,λs=>⟨.inl,λh=>h.elim id λh=>nomatch h⟩⟩ ?_ ?_ ?_
   .rintro u σ g _ ⟨Y,B,rfl,N,_⟩;exact bK.of (N _ _ (mf a0) (a3 _ _ a0))
   .rintro u v σ H6 hv ⟨Y,B,rfl,N,e6,F,a6,p⟩;rw[vv]at hv;let⟨y,hy,rfl⟩:=vg.mp hv;have ul:=(vx.mp hy).1;exists⟨pf,_,rfl,.inl (bK.of e6),rfl,iP _,?_⟩;rw[vd rfl,Xn];refine⟨_,rfl,?_⟩;refine dI (λc=>?_) (λc=>?_)
    .exists⟨.inl ⟨rfl,_,bK.of e6⟩,?_⟩;exists⟨pf,_,_,rfl,rfl,e6,by rw[vt];lia,?_⟩;refine⟨_,B++[y],rfl,λc u hc h=>(jh hc).trans (N _ _ hc h),by rw[jA,vj];rfl,nodup_append.mpr ⟨F,pairwise_singleton _ _,λa o b hb e=>c (by rw[<-vo.mp hb,<-e];exact o)⟩,by rw[vn,vS];lia,λs=>?_⟩;rw[vh,p,vo,take_snoc hy,vh,vo,or_assoc]
    .exists⟨_,B,rfl,N,e6,F,⋯,λs=>?_⟩;rw[p,take_snoc hy,vh,vo];refine⟨λh=>h.elim .inl λh=>.inr (.inl h),?_⟩;rintro(h | h | rfl)
     .exact .inl h
     .exact .inr h
     .exact(p _).mp c
   .rintro σ H6 ⟨Y,B,rfl,N,e6,F,a6,p⟩;rw[vt]at a6 p;rw[v5]at p;exists⟨_,_,B,rfl,N,e6,F,⋯,λs=>?_⟩;rw[p,S,take_snoc hj];constructor
    .rintro(⟨j',a1,h⟩ | h)
     .exact⟨j',mem_append_left _ a1,h⟩
     .exact⟨j,mem_append_right _ vq,h⟩
    .rintro⟨j',a1,h⟩;rcases vh.mp a1 with z | z
     .exact .inl ⟨j',z,h⟩
     .rw[vo.mp z]at h;exact .inr h
  .rintro σ H5 ⟨o5,Y,U,rfl,sm,e5,a2,kl,S⟩;rw[show((f.js.map λj=>I.getD j ⟨#[]⟩).map V.str).length=⇑f.js by rw[vt,vt]]at kl S;rw[v5]at S;ac_nf;exact q pf U H5 (λc u h=>sm _ _ (mf h) (a3 _ _ h)) (none_of D hpf) e5 ⟨a2,λs=>(S s).trans ⟨.inl,λh=>h.elim id λ⟨h',n',e⟩=>uf e (W _ _ _)⟩⟩ ⋯
def XF(T:Txt K mg t):1<*t.QY t.Q1 ["_law_names","_law_known_here","_law_most"] (fT):=by
 specialize T.yJ.F.ok QC;let⟨X,d,f,S,B,rfl,N,M,nd,ng,n1,a0,gb,q⟩:=h;refine⟨_,(jb (cj 3 QC.nd (jN jd))
  (jb (cj 4 QC.nd jc)
  (jb (j7 PassesOwn.never rfl (Lh (by rfl) T.EL (ja (pv 0) jd)) (cA 5 QC.nd)
   (jf (jM (PW.pt (Qc (jp Zj (jy jI (by rfl) T.Jl jZ (ja (pv 3) jd)) jc (bH _)) (qQ (jp xy (jr jQ (pv 4) (JN (Jz hr) (pv 1) (pv 5))) (pv 2) (bH _)))))
    (jb (jR (Jy q3 q4 q5 jH (pv 3) (ja (pv 5) jd)))
    (jf (cj 4 QC.nd (jr jQ (pv 4) (JN (Jz hr) (pv 1) (pv 5))))))
    ju)))
  (jf (jv (Js qu (by rfl) T.Z3 zD (ja (pv 3) jd))))))),?_⟩
 rotate_right 303
 have p:∀(h:Hp) j,h d=some (.dK (iH f S))->j<⇑f->cM h d (.str (f.getD j ⟨#[]⟩)) (some (.int (S.getD j 0))):=λh j eh hj=>by
  have g:=cM.k (k:=Sum.inr (f.getD j ⟨#[]⟩)) eh;rw[kH nd ng hj]at g;exact g
 exists⟨va _,?_⟩;walk_at"f ps hps H1 s1 t1";have l:∀{c u},H c=some u->c≠ps:=λh=>je h hps
 exists⟨X,_,rfl,bK.of (s1 _ _ N),?_⟩;refine Iu (xs:=f.map V.str) (λt J m=>fZ λ(G:N3) (e:L6) (a:Int)=>i7 (J=[↥X,↥d,~~~B,↥ps,~~~a,G]) (∀c u,c≠ps->H1 c=some u->m c=some u) (m ps=some (.lst ((e.map λj=>f.getD j ⟨#[]⟩).map V.str))) (⇑e<=5) (∀j∈e,j<⇑f) ((t=0->e=[]/\a=0)/\(0<t->e≠[]))) ⟨_,[],0,rfl,λc u _ h=>h,t1,va _,(λj h=>nomatch h),λ_=>⟨rfl,rfl⟩,λh=>uf h ⋯⟩ ?_ ?_ ?_
 .rintro t J m _ ⟨G,e,a,rfl,n,_⟩;exact bK.of (n _ _ (l N) (s1 _ _ N))
 .rintro t v J m hi D ⟨G,e,a,rfl,n,o,F,r,Y,I⟩;rw[vt]at hi D;rw[vv]at D;let⟨x,W,rfl⟩:=vg.mp D;have ej:x=f.getD (⇑f-1-t) ⟨#[]⟩:=by rw[vy,W];rfl
  subst ej;have y:⇑f-1-t<⇑f:=⋯
  clear W D;generalize ⇑f-1-t=j at y|-;have k':∀{c u},H c=some u->m c=some u:=λh=>n _ _ (l h) (s1 _ _ h)
  have g:=gb j y;exists⟨_,_,rfl,.inl ⟨_,bK.of o,rfl⟩,?_⟩;rw[vt,vt];exists bT (λc=>?_) (λc=>?_)
  .exists⟨d,_,rfl,p m j (k' M) y,?_⟩;exists bT (λR=>?_) (λR=>?_)
   .exists⟨.inl ⟨rfl,_,bK.of o⟩,?_⟩;exists⟨ps,_,_,rfl,rfl,o,by rw[vt,vt];lia,?_⟩;generalize L:upd m ps _=H2;have Z:H2 ps=some (.lst (((e++[j]).map λj=>f.getD j ⟨#[]⟩).map V.str)):=by
     rw[vj,vj];exact qT L
    have C:∀c u,c≠ps->H1 c=some u->H2 c=some u:=λc u U h=>L▸(jh U).trans (n c u U h)
    clear L;exists⟨d,_,rfl,p H2 j (C _ _ (l M) (s1 _ _ M)) y,?_⟩;exists⟨_,e++[j],_,rfl,C,Z,by rw[vn];show _+1<=5;lia,λj' O=>?_,λh=>uf h ⋯,λ_ h=>by simp at h⟩;rcases vh.mp O with z | z
    .exact r j' z
    .rw[vo.mp z];exact y
   .exists⟨_,e,a,rfl,n,o,F,r,λh=>uf h ⋯,λ_ h=>?_⟩;rcases Nat.eq_zero_or_pos t with z | z
    .let⟨_,rfl⟩:=Y z;exact R ⋯
    .exact I z h
  .exists⟨_,e,a,rfl,n,o,F,r,λh=>uf h ⋯,λ_ h=>?_⟩;rw[h]at c;exact c (by show((0:Nat):Int)<5;lia)
 .rintro J m ⟨G,e,a,rfl,n,o,F,r,Y,I⟩;rw[vt]at I;exists⟨ps,_,rfl,.inl ⟨bK.of o,?_⟩⟩;walk_at"f b hb H3 s3 t3";exact q b e H3 (λc u h=>s3 _ _ (n _ _ (l h) (s1 _ _ h))) t3 (I ⋯) F r
def XJ(T:Txt K mg t)(j:1<*t.qd t.qj ["_law_cell","_law_k"] (kY)):2<*t.QZ t.Q2 ["_law_pool","_law_many"] (fh):=by
 specialize T.jO.F.ok kU;let⟨p,x,y,m,rfl,b,z,n,B,C,q⟩:=h;refine⟨_,(jb (jM (jp yE (jg jw (pv 0) jc) jc (bH _))
   (jb (cj 2 kU.nd (jr j6 (jg jw (pv 0) jc) (pv 1)))
   (jb (Yg (jr Jf (jg jw (pv 0) jc) (pv 1)) (ka (pv 0) jc set_list))
   (jf (jv (pv 2)))))
   ju)
  (jb (Yg (jr j6 (jr qq (jr jQ (jg jw (pv 0) jc) (pv 1)) jc) (jr jQ (jr QN jc jc) jc)) (ka (pv 0) jc set_list))
  (jb (Yg (jq T.Jm j hr (ja (jg jw (pv 0) jc) (ja (pv 1) jd))) (ka (pv 0) jc set_list))
  (jf (jv (jr j6 (jr Jf (jg jw (pv 0) jc) jc) (pv 1))))))),?_⟩
 rotate_right 201
 exists bU (bK.of b) rfl ?_;exists bT (λc=>?_) (λc=>?_)
 .have e:fi x y m=(x%m,x/m,y):=vd ⋯;rw[e]at q;exists bU (bK.of b) rfl ?_;exists bU (bK.of b) rfl ?_;exists⟨p,_,_,0,rfl,rfl,b,rfl,?_⟩;ac_nf;exact q _ (λc u d h=>(jh d).trans h) jA
 .have e:fi x y m=(c9 ((y+m)*314159265358979323846264338327%(10^30+57)) m/1000%m,x,c9 ((y+m)*314159265358979323846264338327%(10^30+57)) m):=vc ⋯;rw[e]at q;exists bU (bK.of b) rfl ?_;exists⟨p,_,_,1,rfl,rfl,b,rfl,?_⟩;have o:=ve ((y+m)*314159265358979323846264338327) (show(10^30+57:Int)≠0 by decide);have r:=vf ((y+m)*314159265358979323846264338327) (show(0:Int)<10^30+57 by decide);generalize(y+m)*314159265358979323846264338327%(10^30+57)=v at o r q|-;generalize a:upd H p _=H1;have f:H1 p=some (.lst [.int x,.int v]):=qT a;have k:∀c u,c≠p->H c=some u->H1 c=some u:=λc u d h=>a▸(jh d).trans h
  clear a;exists bU (bK.of f) rfl ?_;exists⟨v,m,rfl,⋯,n,?_⟩;exists⟨p,_,_,1,rfl,rfl,f,rfl,?_⟩;generalize a:upd H1 p _=H2;have g:H2 p=some (.lst [.int x,.int (c9 v m)]):=qT a;have l:∀c u,c≠p->H c=some u->H2 c=some u:=λc u d h=>a▸(jh d).trans (k c u d h)
  clear a;exists bU (bK.of g) rfl ?_;ac_nf;exact q _ l g
def Wd(T:Txt K mg t)(jF:2<*t.QZ t.Q2 ["_law_pool","_law_many"] (fh)):3<*t.Zr t.Zt ["_law_pool","_law_kind","_law_names","_law_movers","_law_bounds"] (fN):=by
 specialize T.YU.F.ok Jg;let⟨p,nl,ml,bd,x,y,kd,H0,am,L,v,G,b0,b1,b2,b3,b4,rfl,ep,y0,y1,M,N,n1,Bd,q⟩:=h;refine⟨_,(jb (jM (jp j5 (pv 1) jc (bH _))
   (jb (cj 5 Jg.nd (jr jQ jc (jq T.jO jF hr (ja (pv 0) (ja (jg jw (pv 4) jc) jd)))))
   (jf (jv (jJ (ja jD (ja (pv 5) (ja (jg jw (pv 2) (jq T.jO jF hr (ja (pv 0) (ja (jy jI (by rfl) T.Jl jZ (ja (pv 2) jd)) jd)))) jd)))))))
   ju)
  (jb (jM (jp j5 (pv 1) jc (bH _))
   (jb (cj 6 Jg.nd (jr jQ jc (jq T.jO jF hr (ja (pv 0) (ja jc jd)))))
   (jf (jv (jJ (ja jD (ja (Js qu (by rfl) T.Z3 zD (ja (Jj (ow:=["_law_j"]) (ci:=[2,0]) rfl (bM.of (bG Qa) ["_law_pool","_law_kind","_law_names","_law_movers","_law_bounds","_law_times","_law_many","_law_some","_law_used","_law_j","_law_at","_law_twice"] rfl rfl ∅) (JM nofun) (qP (by rfl) T.Qt (ja (pv 6) jd)) (λ_ _ _ _ _=>⟨(cA 0 (jW ["_law_pool","_law_kind","_law_names","_law_movers","_law_bounds","_law_times","_law_many","_law_some","_law_used","_law_j","_law_at","_law_twice"] rfl ∅)),JS,(jg (zI (K:=K) rfl) (pv 1) (jq T.jO jF hr (ja (pv 2) (ja (jy (FE (K:=K) rfl) (by rfl) T.Jl jZ (ja (pv 1) jd)) jd))))⟩)) jd)) jd))))))
   ju)
  (jb (cj 7 Jg.nd (jN jd))
  (jb (jo (i:=8) Jg.nd rfl (.inr rfl) (jN jd))
  (jb (j7 PassesOwn.never rfl (qP (by rfl) T.Qt (ja (jr jQ jc (jq T.jO jF hr (ja (pv 0) (ja jc jd)))) jd)) (cA 9 Jg.nd)
   (jb (cj 10 Jg.nd (jq T.jO jF hr (ja (pv 0) (ja (jy jI (by rfl) T.Jl jZ (ja (pv 2) jd)) jd))))
   (jb (X3 (i:=11) (ow:=["_law_one"]) (ci:=[8]) rfl (bM.of (bG Qa) ["_law_pool","_law_kind","_law_names","_law_movers","_law_bounds","_law_times","_law_many","_law_some","_law_used","_law_j","_law_at","_law_twice"] rfl rfl ∅) (JM nofun) Jg.nd rfl (.inl rfl) (jY (jg jw (pv 3) (pv 10))) (λ_ _ _ _ _=>⟨(cA 0 (jW ["_law_pool","_law_kind","_law_names","_law_movers","_law_bounds","_law_times","_law_many","_law_some","_law_used","_law_j","_law_at","_law_twice"] rfl ∅)),(XY (jp (Y9 (K:=K) rfl) (pv 0) (pv 1) (by with_unfolding_all rfl))),(pv 0)⟩))
   (jf (jM (PW.pt (Qc (jp (XS hr.units) (jg jw (pv 3) (pv 10)) (jN jd) (bH _)) (qQ (jp (XR hr.units) (pv 11) (jN jd) (bH _)))))
    (jb (jR (Jy q3 q4 q5 jH (pv 7) (ja (jg jw (pv 2) (pv 10)) jd)))
    (jf (jo (i:=8) Jg.nd rfl (.inr rfl) (jr Y8 (pv 8) (jg jw (pv 3) (pv 10))))))
    ju)))))
  (jb (jM (jp Zj (jy jI (by rfl) T.Jl jZ (ja (pv 7) jd)) jc (bH _))
   (jf (jv (jJ (ja jD (ja (jr jQ jc (jq T.jO jF hr (ja (pv 0) (ja (jg jw (pv 4) jc) jd)))) jd)))))
   ju)
  (jf (jv (jJ (ja jD (ja (Js qu (by rfl) T.Z3 zD (ja (pv 7) jd)) jd))))))))))),?_⟩
 rotate_right 507
 have aA:=N.sR;let⟨eb,ae,aq,ar,as,au,av,a9,aw,ax,ay⟩:=Bd;exists bT (λc=>?_) (λc=>?_)
 .exists bU (bK.of (M _ _ eb).2) rfl ?_;ac_nf;have r:=Jt (x:=x) (y:=y) a9;refine⟨p,x,y,_,rfl,ep,a9,⋯,y0,y1,λH1 x1 e1=>?_⟩;have o:=JQ (x:=x) (m:=b3) y0 y1;have o1:=M.ex x1;exists⟨_,_,rfl,.inl ⟨_,bK.of (o1 _ _ N.en).2,rfl⟩,?_⟩;rw[vt];exists⟨p,_,_,_,rfl,e1,⋯,⋯,o.1,o.2,λH2 x2 e2=>?_⟩;have r2:=Jt (x:=(fi x y b3).2.1) (y:=(fi x y b3).2.2) (m:=(⇑v:Int)) ⋯;have o2:=o1.ex x2;generalize fi (fi x y b3).2.1 (fi x y b3).2.2 (⇑v:Int)=T2 at r2 e2|-;obtain⟨j,ej⟩:∃j:Nat,T2.1=(j:Int):=⟨T2.1.toNat,⋯⟩
  rw[ej]at r2|-;have F:j<⇑v:=⋯
  refine bU (bK.of (o2 _ _ N.en).2) (Zc F) ?_;exists⟨uc,?_⟩;walk_at"f b6 hb6 H6 s6 t6";exact q b6 (.again (1+(fi x y b3).1) j) H6 (x1.trans (x2.trans (.of s6))) t6 ⟨⋯,⋯,F⟩
 exists bT (λc5=>?_) (λc5=>?_)
 .ac_nf;have r:=Jt (x:=x) (y:=y) (m:=5) ⋯;have o:=JQ (x:=x) (m:=5) y0 y1;refine⟨p,x,y,_,rfl,ep,⋯,⋯,y0,y1,λH1 x1 e1=>?_⟩;generalize fi x y 5=T at r o e1|-;have o1:=M.ex x1;exists⟨_,rfl,⋯,⋯,?_⟩;refine wK (λi ys C=>fZ λ(f:L6) (x y:Int)=>i7 (ys=f.map (λj=>V.str (v.getD j ⟨#[]⟩))) (⇑f=i) (∀j∈f,j<⇑v) (Ex p H1 C) (C p=some (.lst [.int x,.int y])) (0<=y/\y<10^30+57)) ⟨[],_,_,rfl,rfl,(λj h=>nomatch h),.refl _,e1,o⟩ ?_ ?_
  .rintro i ys C hi ⟨f,x2,y2,rfl,il,F,xx,ai,yy⟩;have o2:=o1.ex xx;refine Jq (S':=[none,some _,some _]) rfl ?_;exists dq ?_;exists⟨_,_,rfl,.inl ⟨_,bK.of (o2 _ _ N.en).2,rfl⟩,?_⟩;rw[show(v.map V.str).length=⇑v from vt _];ac_nf;have r2:=Jt (x:=x2) (y:=y2) (m:=(⇑v:Int)) ⋯;have e:=JQ (x:=x2) (m:=(⇑v:Int)) yy.1 yy.2;refine⟨p,x2,y2,_,rfl,ai,⋯,⋯,yy.1,yy.2,λH3 x3 e3=>?_⟩;generalize fi x2 y2 (⇑v:Int)=T2 at r2 e e3|-;obtain⟨j,ej⟩:∃j:Nat,T2.1=(j:Int):=⟨T2.1.toNat,⋯⟩
   rw[ej]at r2|-;have jn:j<⇑v:=⋯
   refine bU (bK.of (o2.ex x3 _ _ N.en).2) (Zc jn) ?_;refine⟨by rw[vt];lia,f++[j],_,_,by rw[vj];rfl,by rw[vn,il];rfl,λZ g=>?_,xx.trans x3,e3,e⟩;rcases vh.mp g with z | z
   .exact F Z z
   .rw[vo.mp z];exact jn
  rintro ys H3 ⟨f,x3,y3,rfl,il,F,xx,az,yy⟩;refine⟨by rw[vt];lia,?_⟩;walk_at"f b hb H4 s4 t4";exists⟨b,_,rfl,.inl ⟨bK.of t4,?_⟩⟩;walk_at"f b5 hb5 H5 s5 t5";exists⟨ud,?_⟩;walk_at"f b6 hb6 H6 s6 t6";refine q b6 (.row f) H6 (x1.trans (xx.trans (.of (s4.trans (s5.trans s6))))) ⟨b5,t6,?_⟩ ⟨λz=>?_,⋯,F⟩
  .rw[s6 _ _ t5,v6];rfl
  .rw[z]at il;have:(0:Nat)=_:=il;lia
 exists⟨va _,?_⟩;walk_at"f ps hps H1 s1 t1";exists⟨va _,?_⟩;walk_at"f pu hpu H2 s2 t2";have a6:=s1.trans s2;have a2:ps≠p:=(je ep hps).symm;have ad:pu≠p:=(je (s1 _ _ ep) hpu).symm;have ac:∀{c u},H c=some u->c≠ps:=λh=>je h hps
 have ao:pu≠ps:=(je t1 hpu).symm;ac_nf;have r:=Jt (x:=x) (y:=y) (m:=3) ⋯;have o:=JQ (x:=x) (m:=3) y0 y1;refine⟨p,x,y,_,rfl,a6 _ _ ep,⋯,⋯,y0,y1,λH3 x3 e3=>?_⟩;generalize fi x y 3=T at r o e3|-;have o3:Off p H0 H3:=λc u h=>⟨(M c u h).1,x3 _ _ (M c u h).1 (a6 _ _ (M c u h).2)⟩
 have af:=x3 _ _ a2 (s2 _ _ t1);have ag:=x3 _ _ ad t2;have aj:∀{c u},c≠p->H c=some u->H3 c=some u:=λn h=>x3 _ _ n (a6 _ _ h)
 exists⟨_,rfl,⋯,⋯,?_⟩;refine QM (λt σ C=>om λ(o9 a4 a5:N3) (d:Addr) (f:L6) (D:L8) (x y:Int)=>oQ (σ=[↥p,~~~kd,↥nl,↥ml,↥bd,none,none,↥ps,↥d,o9,a4,a5]) (d≠ps) (d≠p) (Ex p H C) (C ps=some (.lst ((f.map λj=>v.getD j ⟨#[]⟩).map V.str))) (C d=some (.lst (D.map V.str))) (C p=some (.lst [.int x,.int y])) (0<=y) (y<10^30+57) (⇑f<=t) (⇑D<=8*t) (∀j∈f,j<⇑v) (iS G f) (∀s,s∈D↔∃j∈f,s∈G.getD j [])) ⟨_,_,_,pu,[],[],_,_,rfl,ao,ad,λc u n h=>aj n h,af,ag,e3,o.1,o.2,vb _,vb _,(λj h=>nomatch h),⟨(λj h=>nomatch h),.nil⟩,λs=>⟨(λh=>nomatch h),λ⟨j,h,_⟩=>nomatch h⟩⟩ ?_ ?_
 .rintro t σ H4 ht ⟨o9,a4,a5,d,f,D,x4,y4,rfl,a1,a0,B,I,a3,e4,R,S,il,ul,F,ap,J⟩;have t4:t<4:=⋯
  have o4:=M.ex B;exists⟨_,_,rfl,.inl ⟨_,bK.of (o4 _ _ N.en).2,rfl⟩,?_⟩;rw[vt];ac_nf;have r2:=Jt (x:=x4) (y:=y4) (m:=(⇑v:Int)) ⋯;have e:=JQ (x:=x4) (m:=(⇑v:Int)) R S;refine⟨p,x4,y4,_,rfl,e4,⋯,⋯,R,S,λH5 x5 e5=>?_⟩;generalize fi x4 y4 (⇑v:Int)=T2 at r2 e e5|-;obtain⟨j,ej⟩:∃j:Nat,T2.1=(j:Int):=⟨T2.1.toNat,⋯⟩
  rw[ej]at r2|-;have al:j<⇑v:=⋯
  have a7:=B.trans x5;have o5:=M.ex a7;have U:=x5 _ _ a2 I;have W:=x5 _ _ a0 a3;clear x5 B o4 I a3 e4 R S;let⟨ma,ak,X,an,mw⟩:=N.mv al;have aM:d0 (am.map V.ref) ((j:Nat):Int)=↥ma:=jK (by rw[vv,ak];rfl);exists bU (bK.of (o5 _ _ N.em).2) (aM) ?_;refine⟨ma,rfl,⟨_,bK.of (o5 _ _ X).2⟩,?_⟩;refine JC (xs:=(G.getD j []).map V.str) (λi ys C=>ys=(((G.getD j []).take i).filter λs=>decide (s∈D)).map V.str/\H5=C) ⟨rfl,rfl⟩ ?_ ?_ ?_
  .rintro i ys C _ ⟨rfl,rfl⟩;exact bK.of (o5 _ _ X).2
  .rintro i x ys C hx ⟨rfl,rfl⟩;rw[vv]at hx;let⟨k,aa,rfl⟩:=vg.mp hx;have ik:=(vx.mp aa).1;refine Jq (S':=[none,some _]) rfl ?_;exists⟨d,_,rfl,.inl (bK.of W),rfl,iP _,?_⟩;rw[ym];ac_nf;rw[take_snoc aa,filter_append];have lf:⇑(((G.getD j []).take i).filter λs=>decide (s∈D))<=8:=vW (length_filter_le _ _) (by rw[vi];lia);refine bT (λc=>?_) (λc=>?_)
   .exists⟨by rw[vt];lia,?_,rfl⟩;rw[vj,v8,vd (vG c),filter_nil];rfl
   .refine⟨?_,rfl⟩;rw[v8,vc (by rw[vH c];exact vF),filter_nil,append_nil]
  rintro ys C ⟨rfl,rfl⟩;rw[show((G.getD j []).map V.str).length=⇑(G.getD j []) from vt _,v5];have lf:⇑((G.getD j []).filter λs=>decide (s∈D))<=8:=vW (length_filter_le _ _) an;have wf:∀x∈(G.getD j []).filter (λs=>decide (s∈D)),Ws.fG x=true:=λx hx=>mw x (vP.mp hx).1
  refine⟨by rw[vt];lia,?_⟩;walk_at"f p5 hp5 H6 s6 t6";have o6:=o5.ex (.of s6);exists bU (bK.of (o6 _ _ N.em).2) (aM) ?_;exists⟨va _,?_⟩;sleep 7;have O:=s6.trans s7;refine⟨_,_,.lst (s7 _ _ (o6 _ _ X).2) (Z8 _),rM t7,mR mw,mQ,?_⟩;rw[mJ];exists dI (λd1=>?_) (λd1=>?_)
  .exists⟨va _,?_⟩;sleep 8;have l:=O.trans s8;have a8:=a7.trans (.of l);refine⟨_,_,.lst (s8 _ _ (s7 _ _ t6)) (Z8 _),rM t8,mR wf,mQ,?_⟩;rw[mJ];exists bT (λd2=>?_) (λd2=>?_)
   .exists⟨.inl ⟨rfl,_,bK.of (l _ _ U)⟩,?_⟩;ac_nf;have o8:=M.ex a8;refine bU (bK.of (o8 _ _ N.en).2) (Zc al) ?_;exists⟨ps,_,_,rfl,rfl,l _ _ U,by rw[vt,vt];lia,?_⟩;generalize eG:upd H8 ps _=H9;have e9:H9 ps=some (.lst (((f++[j]).map λj=>v.getD j ⟨#[]⟩).map V.str)):=by
     rw[vj,vj];exact qT eG
    have k9:∀c u,c≠ps->H8 c=some u->H9 c=some u:=λc u hc h=>eG▸(jh hc).trans h
    clear eG;have n9:∀{c u},H0 c=some u->H9 c=some u:=λ{c u} h=>k9 _ _ (ac (M _ _ h).2) (o8 _ _ h).2
    exists bU (bK.of (n9 N.em)) (aM) ?_;refine⟨d,ma,_,_,rfl,rfl,k9 _ _ a1 (l _ _ W),n9 X,by rw[vt,vt];lia,?_⟩;sleep 10;ac_nf;have ah:=s10 _ _ (k9 _ _ a2.symm (l _ _ e5));refine⟨_,_,_,p10,f++[j],D++G.getD j [],_,_,rfl,(je e9 hp10).symm,(je (k9 _ _ a2.symm (l _ _ e5)) hp10).symm,λc u n h=>s10 _ _ (k9 _ _ (ac h) (a8 _ _ n h)),s10 _ _ e9,by rw[vj];exact t10,ah,e.1,e.2,by rw[vn];show _+1<=_;lia,by rw[vn];lia,λZ g=>?_,⟨λZ g=>?_,List.pairwise_append.mpr ⟨ap.2,pairwise_singleton ..,λa ha b hb s Y ab=>?_⟩⟩,λs=>?_⟩
    .rcases vh.mp g with z | z
     .exact F Z z
     .rw[vo.mp z];exact al
    .rcases vh.mp g with z | z
     .exact ap.1 Z z
     .rw[vo.mp z];exact d1
    .rw[vo.mp hb]at ab;have:s∈(G.getD j []).filter λs=>decide (s∈D):=vP.mpr ⟨ab,vG ((J s).mpr ⟨a,ha,Y⟩)⟩
     rw[d2]at this;cases this
    .rw[vh,J];constructor
     .rintro(⟨Z,g,Y⟩ | Y)
      .exact⟨Z,mem_append_left _ g,Y⟩
      .exact⟨_,mem_append_right _ vq,Y⟩
     .rintro⟨Z,g,Y⟩;rcases vh.mp g with z | z
      .exact .inl ⟨Z,z,Y⟩
      .rw[vo.mp z]at Y;exact .inr Y
   .ac_nf;exact⟨_,_,_,d,f,D,_,_,rfl,a1,a0,a8,l _ _ U,l _ _ W,l _ _ e5,e.1,e.2,⋯,⋯,F,ap,J⟩
  .ac_nf;exact⟨_,_,_,d,f,D,_,_,rfl,a1,a0,a7.trans (.of O),O _ _ U,O _ _ W,O _ _ e5,e.1,e.2,⋯,⋯,F,ap,J⟩
 rintro σ H4 ⟨o9,a4,a5,d,f,D,x4,y4,rfl,a1,a0,B,I,a3,e4,R,S,il,ul,F,ap,J⟩;exists⟨_,_,rfl,.inl ⟨_,bK.of I,rfl⟩,?_⟩;rw[vt,vt];exists bT (λc2=>?_) (λc2=>?_)
 .ac_nf;have o4:=M.ex B;refine bU (bK.of (o4 _ _ eb).2) rfl ?_;ac_nf;have r2:=Jt (x:=x4) (y:=y4) ae;refine⟨p,x4,y4,_,rfl,e4,⋯,⋯,R,S,λH5 x5 e5=>?_⟩;exists⟨ud,?_⟩;walk_at"f b6 hb6 H6 s6 t6";exact q b6 (.hold (1+(fi x4 y4 b0).1)) H6 (B.trans (x5.trans (.of s6))) t6 ⟨⋯,⋯⟩
 exists⟨ps,_,rfl,.inl ⟨bK.of I,?_⟩⟩;walk_at"f b5 hb5 H5 s5 t5";exists⟨ud,?_⟩;walk_at"f b6 hb6 H6 s6 t6";exact q b6 (.side f) H6 (B.trans (.of (s5.trans s6))) ⟨b5,t6,s6 _ _ t5⟩ ⟨⋯,⋯,F,ap.n N.il⟩
def kN(T:Txt K mg t)(M:2<*t.QZ t.Q2 ["_law_pool","_law_many"] (fh))(Zq:3<*t.Zr t.Zt ["_law_pool","_law_kind","_law_names","_law_movers","_law_bounds"] (fN)):4<*t.QJ t.QL ["_law_pool","_law_names","_law_movers","_law_limbs","_law_bounds"] (ij):=by
 specialize T.ZE.F.ok JO;let⟨p,nl,ml,pl,bd,x,y,H0,aa,ac,F,X,Ms,b0,b1,b2,b3,b4,rfl,ep,y0,y1,of,N,R,Bd,q⟩:=h;refine⟨_,(jb (cj 5 JO.nd (jq T.jO M hr (ja (pv 0) (ja jc jd))))
  (jb (jM (PW.pt (Qc (jp yE (pv 5) jc (bH _)) (qQ (jp (XS hr.units) (pv 1) (jN jd) (bH _)))))
   (jf (jv (jq T.YU Zq hr (ja (pv 0) (ja (pv 5) (ja (pv 1) (ja (pv 2) (ja (pv 4) jd))))))))
   ju)
  (jb (cj 6 JO.nd (jr jQ jc (jq T.jO M hr (ja (pv 0) (ja (jg jw (pv 4) (jq T.jO M hr (ja (pv 0) (ja jc jd)))) jd)))))
  (jb (jM (jp Zj (pv 5) jc (bH _))
   (jb (cj 7 JO.nd (jg jk (jg jw (pv 3) (jq T.jO M hr (ja (pv 0) (ja (jy jI (by rfl) T.Jl jZ (ja (pv 3) jd)) jd)))) jc))
   (jf (jv (jJ (ja jD (ja (pv 7) (ja (jq T.jO M hr (ja (pv 0) (ja (jg jw (pv 4) jc) jd))) (ja (pv 6) jd))))))))
   ju)
  (jb (jM (jp j5 (pv 5) jc (bH _))
   (jb (cj 8 JO.nd (jr Y8 (jN (ja jD (ja jD (ja jD jd)))) (Q5 Cg (pv 1) Zk (QU jc))))
   (jf (jv (jJ (ja jD (ja (jg jw (pv 8) (jq T.jO M hr (ja (pv 0) (ja (jy jI (by rfl) T.Jl jZ (ja (pv 8) jd)) jd)))) (ja (pv 6) jd)))))))
   ju)
  (jf (jv (jJ (ja jD (ja (pv 6) jd)))))))))),?_⟩
 rotate_right 504
 have ad:=N.sR;let⟨eb,l,n,o,u,S,a0,a1,a2,a3,a4⟩:=Bd;ac_nf;have r:=Jt (x:=x) (y:=y) (m:=8) ⋯;have b:=JQ (x:=x) (m:=8) y0 y1;refine⟨p,x,y,_,rfl,ep,⋯,⋯,y0,y1,λH1 x1 e1=>?_⟩;generalize fi x y 8=T at r b e1|-;have o1:=of.ex x1;exists bT (λc=>?_) (λc=>?_)
 .exists⟨va _,?_⟩;walk_at"f e3 he3 H3 s3 t3";have o3:=o1.ex (.of s3);refine⟨_,_,.lst (o3 _ _ N.en).2 (Z8 _),rM t3,mR N.w,mQ,?_⟩;rw[mJ];exists dI (λd=>?_) (λd=>?_)
  .ac_nf;exact⟨p,nl,ml,bd,_,_,_,H0,aa,_,X,Ms,b0,b1,b2,b3,b4,rfl,s3 _ _ e1,b.1,b.2,o3,N,length_pos_iff.mpr d,⟨eb,l,n,o,u,S,a0,a1,a2,a3,a4⟩,λa f H' x' hf ab=>q a f H' (x1.trans ((Ex.of s3).trans x')) hf ab⟩
  .ac_nf;have G:=Jt (x:=T.2.1) (y:=T.2.2) (m:=2) ⋯;have e:=JQ (x:=T.2.1) (m:=2) b.1 b.2;refine⟨p,_,_,_,rfl,s3 _ _ e1,⋯,⋯,b.1,b.2,λH4 Z U=>?_⟩;generalize fi T.2.1 T.2.2 2=T2 at G e U|-;have o4:=o3.ex Z;let⟨L,C,B,a5⟩:=qa (b2:=b2) (b3:=b3) (b4:=b4) ⟨l,n⟩ ⟨o,u⟩ G.1 G.2;refine bU (bK.of (o4 _ _ eb).2) (C) ?_;ac_nf;have r3:=Jt (x:=T2.2.1) (y:=T2.2.2) (m:=L) B;refine⟨p,_,_,_,rfl,U,⋯,⋯,e.1,e.2,λH5 x5 W=>?_⟩;exists bT (λc3=>?_) (λc3=>?_)
   .exact uf c3 ⋯
   exists bT (λc4=>?_) (λc4=>?_)
   .exact uf c4 ⋯
   exists⟨ud,?_⟩;walk_at"f b6 hb6 H6 s6 t6";exact q b6 (.hold (1+(fi T2.2.1 T2.2.2 L).1)) H6 (x1.trans ((Ex.of s3).trans (Z.trans (x5.trans (.of s6))))) t6 ⟨⋯,⋯⟩
 refine fH ?_;ac_nf;have G:=Jt (x:=T.2.1) (y:=T.2.2) (m:=2) ⋯;have e:=JQ (x:=T.2.1) (m:=2) b.1 b.2;refine⟨p,_,_,_,rfl,e1,⋯,⋯,b.1,b.2,λH4 Z U=>?_⟩;generalize fi T.2.1 T.2.2 2=T2 at G e U|-;have o4:=o1.ex Z;let⟨L,C,B,a5⟩:=qa (b2:=b2) (b3:=b3) (b4:=b4) ⟨l,n⟩ ⟨o,u⟩ G.1 G.2;refine bU (bK.of (o4 _ _ eb).2) (C) ?_;ac_nf;have r3:=Jt (x:=T2.2.1) (y:=T2.2.2) (m:=L) B;have g:=JQ (x:=T2.2.1) (m:=L) e.1 e.2;refine⟨p,_,_,_,rfl,U,⋯,⋯,e.1,e.2,λH5 x5 W=>?_⟩;generalize fi T2.2.1 T2.2.2 L=T3 at r3 g W|-;have o5:=o4.ex x5;have I:=x1.trans (Z.trans x5);have l1:=R.l1;have a9:=R.la.1;have l8:=N.l8;rw[show(bF F).length=⇑F from vt _]at l8;exists bT (λc3=>?_) (λc3=>?_)
 .exists⟨_,_,rfl,.inl ⟨_,bK.of (o5 _ _ R.el).2,rfl⟩,?_⟩;rw[vt,a9];ac_nf;have O:=Jt (x:=T3.2.1) (y:=T3.2.2) (m:=(⇑F:Int)) ⋯;have J:=JQ (x:=T3.2.1) (m:=(⇑F:Int)) g.1 g.2;refine⟨p,_,_,_,rfl,W,⋯,⋯,g.1,g.2,λH6 x6 e6=>?_⟩;generalize fi T3.2.1 T3.2.2 (⇑F:Int)=T4 at O J e6|-;obtain⟨j,ej⟩:∃j:Nat,T4.1=(j:Int):=⟨T4.1.toNat,⋯⟩
  rw[ej]at O|-;have jl:j<⇑F:=⋯
  have o6:=o5.ex x6;let⟨lk,a7,a6⟩:=R.la.get (vz jl);refine bU (bK.of (o6 _ _ R.el).2) (jK (j:=j) (by rw[vv,a7];rfl)) ?_;exists cD (bV.of (o6 _ _ a6).2) rfl ?_;exists bU (bK.of (o6 _ _ eb).2) rfl ?_;ac_nf;have r5:=Jt (x:=T4.2.1) (y:=T4.2.2) (m:=b2) S;refine⟨p,_,_,_,rfl,e6,⋯,⋯,J.1,J.2,λH7 x7 e7=>?_⟩;generalize fi T4.2.1 T4.2.2 b2=T5 at r5 e7|-;exists⟨ub,?_⟩;walk_at"f b6 hb6 H8 s8 t8";refine q b6 (.rise F[j].1 T5.1 (1+T3.1)) H8 (I.trans (x6.trans (x7.trans (.of s8)))) t8 ⟨⟨j,?_⟩,r5.1,⋯,⋯,⋯⟩;unfold bF;rw[vv,vz jl];rfl
 exists bT (λc4=>?_) (λc4=>?_)
 .exists⟨uc,?_⟩;walk_at"f b3' hb3' H6 s6 t6";exists⟨nl,_,rfl,bK.of (s6 _ _ (o5 _ _ N.en).2),?_⟩;walk_at"f b4' hb4' H7 s7 t7";have cl:=Ze (X.map V.str) none (some 1);rw[vt]at cl;refine⟨b3',b4',_,_,rfl,rfl,s7 _ _ t6,t7,by show 3+_<=sizeLine;lia,?_⟩;walk_at"f b5' hb5' H8 s8 t8";have Y:=s6.trans (s7.trans s8);have n5:b5'≠p:=(je (s7 _ _ (s6 _ _ W)) hb5').symm;exists⟨_,_,rfl,.inl ⟨_,bK.of t8,rfl⟩,?_⟩;ac_nf;have O:=Jt (x:=T3.2.1) (y:=T3.2.2) (m:=((([V.str "ding",V.str "dong",V.str "din"]++gh (X.map V.str) none (some 1)).length:Nat):Int)) (by rw[vn];show 1<=(((3+_:Nat)):Int);lia);refine⟨p,_,_,_,rfl,Y _ _ W,by rw[vn];show 1<=(((3+_:Nat)):Int);lia,by rw[vn];show(((3+_:Nat)):Int)<=_;lia,g.1,g.2,λH9 x9 e9=>?_⟩;generalize fi T3.2.1 T3.2.2 ((([V.str "ding",V.str "dong",V.str "din"]++gh (X.map V.str) none (some 1)).length:Nat):Int)=T4 at O e9|-;have a8:∀v∈[V.str "ding",V.str "dong",V.str "din"]++gh (X.map V.str) none (some 1),∃w:Str,v = .str w/\Ws.fG w=true:=λv hv=>by
   rcases vh.mp hv with z | z
   .rcases mem_cons.mp z with rfl | z
    .exact⟨_,rfl,by trivial⟩
    .rcases mem_cons.mp z with rfl | z
     .exact⟨_,rfl,by trivial⟩
     .rw[vo.mp z];exact⟨_,rfl,by trivial⟩
   .let⟨w',D,rfl⟩:=vK.mp (Cu z);exact⟨w',rfl,N.w w' D⟩
  let⟨w',D,ww⟩:=Bw (k:=T4.1) a8 O.1 O.2;refine bU (bK.of (x9 _ _ n5 t8)) (D) ?_;exists⟨uc,?_⟩;walk_at"f b8 hb8 H10 s10 t10";exact q b8 (.ring w' (1+T3.1)) H10 (I.trans ((Ex.of Y).trans (x9.trans (.of s10)))) t10 ⟨⋯,⋯,ww⟩
 exists⟨ud,?_⟩;walk_at"f b6 hb6 H6 s6 t6";exact q b6 (.hold (1+T3.1)) H6 (I.trans (.of s6)) t6 ⟨⋯,⋯⟩
def kM(T:Txt K mg t)(jT:1<*t.JW t.JY ["_law_script","_law_k"] (Pr.dF K))(jP:1<*t.qd t.qj ["_law_cell","_law_k"] (kY))(J2:1<*t.Q0 t.Q3 ["_law_place","_law_k"] (fV))(Jp:1<*t.Qi t.Qk ["_law_form_here","_law_known_here"] (fg))(qL:1<*t.Qs t.Qw ["_law_form_here","_law_names","_law_movers"] (fq))(Qh:1<*t.QY t.Q1 ["_law_names","_law_known_here","_law_most"] (fT))(jF:2<*t.QZ t.Q2 ["_law_pool","_law_many"] (fh))(QF:4<*t.QJ t.QL ["_law_pool","_law_names","_law_movers","_law_limbs","_law_bounds"] (ij)):5<*t.QI t.QK ["_law_script","_law_many","_law_bounds"] (eZ K):=by
 specialize T.ZD.F.ok jC;let⟨a,bd,ns,B,b0,b1,b2,b3,b4,rfl,hS,au,m2,b6,Bd,q⟩:=h;refine⟨_,(jb (cj 3 jC.nd (jN (ja (jr Jf (jy wF (by rfl) T.AE Ar (ja (jq T.Jo jT hr (ja (pv 0) (ja jc jd))) jd)) jc) (ja jc jd))))
  (jb (cj 4 jC.nd (jq T.jO jF hr (ja (pv 3) (ja jc jd))))
  (jb (cj 5 jC.nd (jN jd))
  (jb (j7 PassesOwn.never rfl (qP (by rfl) T.Qt (ja (jr jQ jc (jq T.jO jF hr (ja (pv 3) (ja jc jd)))) jd)) (cA 6 jC.nd)
   (jf (jR (Jy q3 q4 q5 jH (pv 5) (ja (jJ (ja (jq T.QX J2 hr (ja (pv 4) (ja (pv 6) jd))) (ja (jq T.jO jF hr (ja (pv 3) (ja (jg jw (pv 2) jc) jd))) jd))) jd)))))
  (jb (cj 7 jC.nd (jq T.jO jF hr (ja (pv 3) (ja (jr jQ (jr qq jc (pv 1)) jc) jd))))
  (jb (cj 8 jC.nd (jq T.jO jF hr (ja (pv 3) (ja jc jd))))
  (jb (cj 9 jC.nd (jN jd))
  (jb (cj 10 jC.nd (jN jd))
  (jb (cj 11 jC.nd zL)
  (jb (cj 12 jC.nd (jN jd))
  (jb (j7 PassesOwn.never rfl (qP (by rfl) T.Qt (ja (jr jQ (pv 1) jc) jd)) (cA 6 jC.nd)
   (jb (cj 13 jC.nd (jy wF (by rfl) T.AE Ar (ja (jq T.Jo jT hr (ja (pv 0) (ja (jr jQ jc (pv 6)) jd))) jd)))
   (jb (cj 14 jC.nd (jN (ja (pv 13) (ja (jq T.Jm jP hr (ja (pv 13) (ja (jr jQ jc (pv 6)) jd))) jd))))
   (jb (qH (jp Zj (pv 13) (jr QN jc jc) (bH _))
    (jf (Yg jc (ka (pv 14) jc set_list)))
    ju)
   (jb (cj 15 jC.nd (jq T.ZE QF hr (ja (pv 14) (ja (pv 9) (ja (pv 10) (ja (pv 5) (ja (pv 2) jd)))))))
   (jb (qH (PW.pt (Qc (jp j5 (pv 6) (pv 1) (bH _)) (qQ (jp j5 (pv 8) jc (bH _)))))
    (jf (cj 15 jC.nd (jJ (ja jD (ja (jq T.yJ Qh hr (ja (pv 9) (ja (pv 11) (ja (jg jw (pv 2) jc) jd)))) jd)))))
    ju)
   (jb (qH (jp yE (jq T.Qg Jp hr (ja (pv 15) (ja (pv 11) jd))) (jg jw (pv 2) jc) (bH _))
    (jf (cj 15 jC.nd (jJ (ja jD (ja jc jd)))))
    ju)
   (jb (jR (Jy q3 q4 q5 jH (pv 10) (ja (jq T.ZR qL hr (ja (pv 15) (ja (pv 9) (ja (pv 10) jd)))) jd)))
   (jb (cj 16 jC.nd (jq T.QX J2 hr (ja (pv 4) (ja (jr jQ jc (pv 6)) jd))))
   (jb (qH (jp j5 (pv 6) (pv 7) (bH _))
    (jf (cj 16 jC.nd (jg jk (jg jw (pv 5) (jr j6 (pv 6) (jy jI (by rfl) T.Jl jZ (ja (pv 5) jd)))) jc)))
    ju)
   (jb (jR (Jy q3 q4 q5 jH (pv 9) (ja (pv 16) jd)))
   (jb (jR (Jy q3 q4 q5 jH (pv 12) (ja (jJ (ja (pv 16) (ja (pv 15) jd))) jd)))
   (jf (Zl (Jz hr) (pv 11) (pv 16) (jq T.Qg Jp hr (ja (pv 15) (ja (pv 11) jd))) rfl))))))))))))))
  (jf (jv (jJ (ja (jJ (ja (pv 5) (ja (pv 12) jd))) (ja (JN (Jz hr) (pv 11) (jg jw (pv 9) (pv 1))) jd)))))))))))))))),?_⟩
 rotate_right 314
 let⟨eb,aD,aE,aF,aG,al,aH,aI,aJ,am,an⟩:=Bd;exists⟨a,ns,_,rfl,hS,au,⋯,?_⟩;refine⟨_,rfl,?_⟩;exists⟨ud,?_⟩;walk_at"f po hpo H1 s1 t1";generalize(if Pr.cell ns 0<0 then -Pr.cell ns 0 else Pr.cell ns 0)/2=x0 at t1;ac_nf;have r1:=Jt (x:=x0) (y:=7) (m:=3) ⋯;have y1:=JQ (x:=x0) (y:=7) (m:=3) nofun nofun;refine⟨po,_,_,_,rfl,t1,⋯,⋯,⋯,⋯,λH2 x2 e2=>?_⟩;generalize fi x0 7 3=T1 at r1 y1 e2|-;obtain⟨p,e3⟩:∃p:Nat,T1.1=(p:Int):=⟨T1.1.toNat,⋯⟩
 have hp:p<3:=⋯
 have s2:bI H H2:=λc u h=>x2 _ _ (je h hpo) (s1 _ _ h)
 rw[e3];clear s1 x2;exists⟨va _,?_⟩;walk_at"f pl hpl H3 s3 t3";have a0:pl≠po:=(je e2 hpl).symm;ac_nf;have r2:=Jt (x:=T1.2.1) (y:=T1.2.2) (m:=8) ⋯;have y2:=JQ (x:=T1.2.1) (m:=8) y1.1 y1.2;refine⟨po,_,_,_,rfl,s3 _ _ e2,⋯,⋯,y1.1,y1.2,λH4 x4 e4=>?_⟩;generalize fi T1.2.1 T1.2.2 8=T2 at r2 y2 e4|-;have s4:bI H H4:=λc u h=>x4 _ _ (je h hpo) (s3 _ _ (s2 _ _ h))
 have t4:=x4 _ _ a0 t3;have av:H pl=none:=none_of s2 hpl;clear s2 s3 x4 t3 hpl;exists⟨_,rfl,⋯,⋯,?_⟩;refine QM (λi σ H'=>pQ λ(o6:N3) (D:L7) (o:L4) (x y:Int)=>rR (σ=[↥a,some (.int (B:Nat)),↥bd,↥po,some (.int (p:Nat)),↥pl,o6,none,none,none,none,none,none,none,none,none,none]) (bI H H') (H' pl=some (.lst (D.map V.ref))) (bL (eQ H') D o) (bF o=mV p i) (⇑o=i) (∀q∈o,0<=q.2/\q.2<=10^18) (H' po=some (.lst [.int x,.int y])) (0<=y/\y<10^30+57)) ⟨_,[],[],_,_,rfl,s4,t4,.nil,rfl,rfl,(λq h=>nomatch h),e4,y2⟩ ?_ ?_
 .rintro i σ H' hi ⟨o6,D,o,x,y,rfl,F,el,la,nm,ll,lh,ep,y0,a2⟩;have i4:i<8:=⋯
  have ax:=la.1;exists⟨.inl ⟨rfl,_,bK.of el⟩,?_⟩;exists⟨p,i,by rw[ux];rfl,hp,⋯,?_⟩;exists bU (bK.of (F _ _ eb)) rfl ?_;ac_nf;have r3:=Jt (x:=x) (y:=y) (m:=b2) al;have y3:=JQ (x:=x) (m:=b2) y0 a2;refine⟨po,_,_,_,rfl,ep,⋯,⋯,y0,a2,λH2 x2 e2=>?_⟩;generalize fi x y b2=T3 at r3 y3 e2|-;have kp:∀c xs,H' c=some (.tup xs)->H2 c=some (.tup xs):=λc xs h=>x2 _ _ (Je h ep λz=>by cases z) h
  have ap:=x2 _ _ a0 el;exists⟨ud,?_⟩;sleep 3;exists⟨pl,_,_,rfl,rfl,s3 _ _ ap,by rw[vt];lia,?_⟩;have kt:∀c xs,H3 c=some (.tup xs)->upd H3 pl (.lst (D.map V.ref++[.ref p3])) c=some (.tup xs):=λc xs h=>(jh (Je h (s3 _ _ ap) λz=>by cases z)).trans h
  refine⟨_,D++[p3],o++[(iL p i,T3.1)],_,_,rfl,λc u h=>?_,by rw[jA,vj];rfl,(la.mono λc x h=>kt _ _ (s3 _ _ (kp _ _ h))).snoc (kt _ _ t3),?_,by rw[vn,ll];rfl,λq hq=>?_,(jh a0.symm).trans (s3 _ _ e2),y3⟩
  .exact(jh (je h av)).trans (s3 _ _ (x2 _ _ (je h hpo) (F _ _ h)))
  .rw[Bc,<-nm];unfold bF;rw[vj];rfl
  .rcases vh.mp hq with z | z
   .exact lh q z
   .rw[vo.mp z];exact⟨r3.1,by show T3.1<=10^18;lia⟩
 rintro S' H5 ⟨o6,D,o,x,y,rfl,aA,aq,ad,nm,ll,lh,a3,y0,a2⟩;clear s4 t4 e4 e2 H2 H3 H4;have m1:1<=⇑o:=⋯
 have m4:⇑o<=8:=⋯
 replace nm:bF o=mV p ⇑o:=by rw[nm,ll]
 let⟨ae,lW⟩:=C1 (m:=⇑o) hp ⋯;rw[<-nm]at ae lW;clear ll;have Ll:⇑(bF o)=⇑o:=vt _;have ax:=ad.1;ac_nf;have r3:=Jt (x:=x) (y:=y) (m:=2*(B:Int)+2) ⋯;have y3:=JQ (x:=x) (m:=2*(B:Int)+2) y0 a2;refine⟨po,_,_,_,rfl,a3,⋯,⋯,y0,a2,λH6 x6 e6=>?_⟩;generalize fi x y (2*(B:Int)+2)=T3 at r3 y3 e6|-;have r4:=Jt (x:=T3.2.1) (y:=T3.2.2) (m:=2) ⋯;exists⟨po,_,_,_,rfl,e6,⋯,⋯,y3.1,y3.2,λH2 x7 e7=>?_⟩;generalize fi T3.2.1 T3.2.2 2=T4 at r4 e7|-;have F:bI H H2:=λc u h=>x7 _ _ (je h hpo) (x6 _ _ (je h hpo) (aA _ _ h))
 have el:=x7 _ _ a0 (x6 _ _ a0 aq);have la:bL (eQ H2) D o:=ad.mono λc x h=>x7 _ _ (Je h a3 λz=>by cases z) (x6 _ _ (Je h a3 λz=>by cases z) h)
 clear aA aq ad x6 x7 e6 e7 a3 H5 H6;obtain⟨O,aO⟩:∃O:Nat,T3.1=(O:Int):=⟨T3.1.toNat,⋯⟩
 rw[aO];generalize T4.1=en4;let⟨nd,nW⟩:=Dq (p:=p) (st:=9) (c:=O) (m:=⇑o) hp m1 ⋯ ⋯;have ng:∀{k:Nat},k<17->(nG p 9 O ⇑o).getD k ⟨#[]⟩=iL p (mU 9 O ⇑o k):=λh=>B0 h
 have nL:=B3 (p:=p) (st:=9) (c:=O) (m:=⇑o);generalize nG p 9 O ⇑o=names at nd nW ng nL;exists⟨va _,?_⟩;walk_at"f nl hnl H3 s3 t3";exists⟨va _,?_⟩;walk_at"f ml hml H4 s4 t4";ac_nf;walk_at"f d hd' H5 s5 t5";exists⟨va _,?_⟩;walk_at"f pp hpp H6 s6 t6";have aj:=s4.trans (s5.trans s6);have a8:=s3.trans aj;have BB:mS pl nl ml d pp D [] [] o names [] [] [] b4 H6:=by
  refine⟨⟨aj _ _ t3,s6 _ _ (s5 _ _ t4),.nil,(λks hk=>nomatch hk),rfl,va _,⋯,(λx hx=>nomatch hx),lW⟩,⟨a8 _ _ el,la.mono λc x h=>a8 _ _ h,m1⟩,s6 _ _ t5,t6,.nil,⟨rfl,rfl,(λi f h=>by simp at h),λi h=>uf h (Nat.not_lt_zero i)⟩,λj Y=>uf Y (Nat.not_lt_zero j),va _⟩
 have SS:oS pl nl ml pp bd []:=⟨je el hnl,je (s3 _ _ el) hml,je (s5 _ _ (s4 _ _ (s3 _ _ el))) hpp,je t3 hml,je (s5 _ _ (s4 _ _ t3)) hpp,je (s5 _ _ t4) hpp,je (F _ _ eb) hnl,je (s3 _ _ (F _ _ eb)) hml,je (s5 _ _ (s4 _ _ (s3 _ _ (F _ _ eb)))) hpp,(λx hx=>nomatch hx)⟩
 have aS:H nl=none:=none_of F hnl;have aR:H ml=none:=none_of (F.trans s3) hml;have aQ:H d=none:=none_of (F.trans (s3.trans s4)) hd';have aT:H pp=none:=none_of (F.trans (s3.trans (s4.trans s5))) hpp;have aY:=F.trans a8;clear a8 aj t3 t4 t5 t6 el la F s3 s4 s5 s6 hnl hml hd' hpp;exists⟨_,rfl,⋯,⋯,?_⟩;refine QM (λi σ H'=>oR λ(o5 ah ai a6 R:N3) (M G:L7) (v:List Fn) (W:List L8) (X:L5)=>eE (σ=[↥a,some (.int (B:Nat)),↥bd,↥po,some (.int (p:Nat)),↥pl,o5,some (.int (O:Nat)),~~~en4,↥nl,↥ml,↥d,↥pp,ah,ai,a6,R]) (bI H H') (mS pl nl ml d pp D M G o names v W X b4 H') (oS pl nl ml pp bd G/\⇑v=i))
  ⟨_,_,_,_,_,[],[],[],[],[],rfl,aY,BB,SS,rfl⟩ ?_ ?_
 .rintro i σ H7 hi ⟨o5,ah,ai,a6,R,M,G,v,W,X,rfl,F,C,S,fl⟩;have aV:i<17:=⋯
  have tl:⇑(names.take ⇑v)=⇑v:=by rw[vi];lia
  have b8:⇑M=⇑v:=C.pa.1.trans qN;have gl:=C.dk.gl;have Ml:⇑W=⇑v:=by have:=C.n.ml;lia
  have b7:⇑G=⇑v:=by have:=C.n.am.1;lia
  have U:(names.take ⇑v).Nodup:=nd.sublist (take_sublist _ _);have af:∀j,j<⇑v->1<=X.getD j 0/\X.getD j 0<=b4:=λj Y=>⟨(C.dk.g j Y).1,C.gb j Y⟩
  exists⟨a,ns,_,rfl,F.seq hS,au,⋯,?_⟩;refine⟨_,rfl,?_⟩;ac_nf;generalize(if Pr.cell ns (1+(0+(i:Int)))<0 then -Pr.cell ns (1+(0+(i:Int)))else Pr.cell ns (1+(0+(i:Int))))=num;refine⟨_,_,rfl,⋯,⋯,?_⟩;have nb:=Q4 num (1+(0+(i:Int)));generalize c9 num (1+(0+(i:Int)))=yo at nb|-;exists⟨ud,?_⟩;walk_at"f ow how Ha sa ta";exists⟨λS' H'=>dQ λ(xo:Int)=>dH (S'=[↥a,some (.int (B:Nat)),↥bd,↥po,some (.int (p:Nat)),↥pl,some (.int (0+(i:Int))),some (.int (O:Nat)),~~~en4,↥nl,↥ml,↥d,↥pp,~~~num,↥ow,a6,R]) (bI H7 H'/\H' ow=some (.lst [.int xo,.int yo])),?_,?_⟩
  rotate_left
  .exists bT (λc=>?_) (λc=>?_)
   .exists⟨ow,_,_,0,rfl,rfl,ta,rfl,?_⟩;exact⟨0,rfl,λc u h=>(jh (je h how)).trans (sa _ _ h),jA⟩
   .ac_nf;exact⟨num,rfl,sa,ta⟩
  rintro S' Hb ⟨xo,rfl,sb,tb⟩;have ob:Off ow H7 Hb:=λc u h=>⟨je h how,sb _ _ h⟩
  exists⟨ow,nl,ml,pl,bd,xo,yo,H7,G,D,o,names.take ⇑v,W,b0,b1,b2,b3,b4,rfl,tb,nb.1,nb.2,ob,C.n,C.l,⟨F _ _ eb,aD,aE,aF,aG,al,aH,aI,aJ,am,an⟩,λar f0 H8 x8 aa N=>?_⟩;have s8:bI H7 H8:=(ob.ex x8).same;rw[tl]at N;have C8:=C.same s8;exists⟨λS' H'=>fE λ(fa:Addr) (f:Fn)=>i6 (S'=[↥a,some (.int (B:Nat)),↥bd,↥po,some (.int (p:Nat)),↥pl,some (.int (0+(i:Int))),some (.int (O:Nat)),~~~en4,↥nl,↥ml,↥d,↥pp,~~~num,↥ow,↥fa,R]) (bI H8 H') (bN H' fa (cL (names.take ⇑v) f)/\dS (bF o) (W.map (gS (bF o))) ⇑v f),?_,?_⟩
  rotate_left
  .exists bT (λc=>?_) (λc=>?_)
   .exists bT (λc2=>?_) (λc2=>?_)
    .exists bU (bK.of (s8 _ _ (F _ _ eb))) rfl ?_;exists⟨nl,d,names.take ⇑v,X,b4,rfl,C8.n.en,C8.ed,U,⋯,⋯,⋯,λj Y=>af j ⋯,λb is H9 s9 e9 ne l5 jl=>?_⟩;exists⟨ud,?_⟩;walk_at"f fa hfa H10 s10 t10";ac_nf;exact⟨fa,.row is,rfl,s9.trans s10,⟨b,t10,s10 _ _ e9⟩,ne,⋯,λj Y=>by have:=jl j Y;lia⟩
    .ac_nf;exact⟨ar,f0,rfl,bI.refl _,aa,N⟩
   .ac_nf;exact⟨ar,f0,rfl,bI.refl _,aa,N⟩
  rintro S' H9 ⟨as,f1,rfl,s9,ab,a1⟩;have C9:=C8.same s9;have ak:=F.trans (s8.trans s9);clear C8 C aa N s8 s9 F;exists⟨λS' H'=>fZ λ(fa:Addr) (f:Fn) (g:Int)=>m9 (S'=[↥a,some (.int (B:Nat)),↥bd,↥po,some (.int (p:Nat)),↥pl,some (.int (0+(i:Int))),some (.int (O:Nat)),~~~en4,↥nl,↥ml,↥d,↥pp,~~~num,↥ow,↥fa,R]) (bI H9 H') (bN H' fa (cL (names.take ⇑v) f)) (dS (bF o) (W.map (gS (bF o))) ⇑v f) (fx X f g/\g<=b4),?_,?_⟩
  rotate_left
  .exists⟨as,d,f1,names.take ⇑v,X,bF o,W.map (gS (bF o)),rfl,ab,C9.ed,U,⋯,by rw[tl];exact a1,λj Y=>by have:=af j ⋯;lia,λg H10 s10 lg=>?_⟩;exists bU (bK.of (s10 _ _ (ak _ _ eb))) rfl ?_;exists bT (λc=>?_) (λc=>?_)
   .exists⟨ud,?_⟩;walk_at"f fa hfa H11 s11 t11";ac_nf;exact⟨fa,.hold 1,1,rfl,s10.trans s11,t11,⟨by decide,by decide⟩,rfl,am⟩
   .ac_nf;exact⟨as,f1,g,rfl,s10,bN.same s10 ab,a1,lg,⋯⟩
  rintro S' H10 ⟨fa,f,g,rfl,s10,hf,a7,lg,gb⟩;have n:=C9.same s10;have az:=ak.trans s10;clear C9 ab a1 s10 ak;exists⟨.inl ⟨rfl,_,bK.of n.n.em⟩,?_⟩;exists⟨fa,nl,ml,G,f,names.take ⇑v,W,bF o,W.map (gS (bF o)),rfl,hf,n.n.en,n.n.em,n.n.am,U,⋯,⋯,by rw[tl];exact a7,λks hk=>by have:=n.n.il.len hk;lia,λl ks H11 s11 hl el mv kl=>?_⟩;exists⟨ml,_,_,rfl,rfl,s11 _ _ n.n.em,by rw[vt];lia,?_⟩;generalize I:upd H11 ml _=H12;have aK:H12 ml=some (.lst ((G++[l]).map V.ref)):=by rw[vj];exact qT I
  have aw:∀c u,c≠ml->H11 c=some u->H12 c=some u:=λc u hc h=>I▸(jh hc).trans h
  clear I;have k2:∀c u,c≠ml->H10 c=some u->H12 c=some u:=λc u hc h=>aw c u hc (s11 _ _ h)
  have L:∀{c u},H10 c=some u->l≠c:=λh=>(je h hl).symm
  have ao:=aw _ _ (L n.n.em) el;have a4:d≠ml:=Je n.ed n.n.em (λz=>by cases z);have a5:d≠nl:=Je n.ed n.n.en (λz=>by cases z);have ag:d≠pp:=Je n.ed n.ep (λz=>by cases z);exists⟨p,9+i,by rw[show(9+(0+(i:Int)))=((9+i:Nat):Int) by lia];rfl,hp,⋯,?_⟩;exists⟨λS' H'=>S'=[↥a,some (.int (B:Nat)),↥bd,↥po,some (.int (p:Nat)),↥pl,some (.int (0+(i:Int))),some (.int (O:Nat)),~~~en4,↥nl,↥ml,↥d,↥pp,~~~num,↥ow,↥fa,some (.str (names.getD ⇑v ⟨#[]⟩))]/\H12=H',?_,?_⟩
  rotate_left
  .have nk:=ng aV;rw[<-fl]at nk;exists bT (λc=>?_) (λc=>?_)
   .have ic:i=O:=⋯
    exists⟨_,_,rfl,.inl ⟨_,bK.of (k2 _ _ S.lm n.l.el),rfl⟩,?_⟩;rw[vt,ax];ac_nf;rw[show(0+(i:Int))%(⇑o:Int)=((i%⇑o:Nat):Int) by rw[ux];exact(Int.natCast_emod _ _).symm];have jm:=Nat.mod_lt i (show 0<⇑o by lia);let⟨lk,aU,aP⟩:=n.l.la.get (vz jm);have a9:H10 lk=some (.tup [.str (o[i%⇑o]).1,.int (o[i%⇑o]).2]):=aP;refine bU (bK.of (k2 _ _ S.lm n.l.el)) (jK (j:=i%⇑o) (by rw[vv,aU];rfl)) ?_;exists bO (k2 _ _ (Je a9 n.n.em λz=>by cases z) a9) ?_;exists⟨?_,rfl⟩;have ew:(o[i%⇑o]).1=iL p (i%⇑o):=by
     have h1:(bF o)[i%⇑o]?=some (o[i%⇑o]).1:=by unfold bF;rw[vv,vz jm];rfl
     rw[nm,C0 jm]at h1;exact(vL h1).symm
    rw[nk,fl];unfold mU;rw[vd ic,ew]
   .exists⟨?_,rfl⟩;rw[nk,fl];unfold mU;rw[vc ⋯]
  rintro S' aZ ⟨rfl,rfl⟩;exists⟨.inl ⟨rfl,_,bK.of (k2 _ _ S.nm n.n.en)⟩,?_⟩;exists⟨nl,_,_,rfl,rfl,k2 _ _ S.nm n.n.en,by rw[vt];lia,?_⟩;generalize I:upd H12 nl _=H13;have aL:H13 nl=some (.lst ((names.take (⇑v+1)).map V.str)):=by
   rw[take_snoc (show names[⇑v]?=some (names.getD ⇑v ⟨#[]⟩) by rw[vy,vz ⋯];rfl),vj];exact qT I
  have ac:∀c u,c≠nl->H12 c=some u->H13 c=some u:=λc u hc h=>I▸(jh hc).trans h
  clear I;have b5:d0 ((names.take (⇑v+1)).map V.str) (0+(i:Int))=some (.str (names.getD ⇑v ⟨#[]⟩)):=by
   rw[<-fl,ux];refine jK ?_;rw[vv,uq ⋯,vy,vz ⋯];rfl
  have k3:∀c u,c≠ml->c≠nl->H10 c=some u->H13 c=some u:=λc u h1 h2 h=>ac c u h2 (k2 c u h1 h)
  exists⟨.inl ⟨rfl,_,bK.of (k3 _ _ S.mp.symm S.np.symm n.ep)⟩,?_⟩;exists⟨ud,?_⟩;walk_at"f c hc H14 s14 t14";exists⟨pp,_,_,rfl,rfl,s14 _ _ (k3 _ _ S.mp.symm S.np.symm n.ep),by rw[vt];lia,?_⟩;generalize I:upd H14 pp _=H15;have aM:H15 pp=some (.lst ((M++[c]).map V.ref)):=by rw[vj];exact qT I
  have Z:∀c u,c≠pp->H14 c=some u->H15 c=some u:=λc u hc h=>I▸(jh hc).trans h
  clear I;have k4:∀c u,c≠ml->c≠nl->c≠pp->H10 c=some u->H15 c=some u:=λc u h1 h2 h3 h=>Z c u h3 (s14 _ _ (k3 c u h1 h2 h))
  have kt:∀c xs,H10 c=some (.tup xs)->H15 c=some (.tup xs):=λc xs h=>k4 c _ (Je h n.n.em λz=>by cases z) (Je h n.n.en λz=>by cases z) (Je h n.ep λz=>by cases z) h
  have aX:c≠pp:=(je (k3 _ _ S.mp.symm S.np.symm n.ep) hc).symm;exists⟨fa,d,f,names.take ⇑v,X,bF o,W.map (gS (bF o)),rfl,bN.keep kt hf,k4 _ _ a4 a5 ag n.ed,U,⋯,by rw[tl];exact a7,λj Y=>by have:=af j ⋯;lia,λg' aC ay aW=>?_⟩;obtain rfl:=lg.uniq aW;exists⟨d,_,rfl,fP.k (k:=Sum.inr (names.getD ⇑v ⟨#[]⟩)) (ay _ _ (k4 _ _ a4 a5 ag n.ed)) (by rw[Xs ⋯];lia),?_⟩;have xn:names.getD ⇑v ⟨#[]⟩∉names.take ⇑v:=λz=>by
   let⟨j,Y,e⟩:=mem_iff_getElem.mp z;rw[getElem_take]at e;have jl:j<⇑v:=by rw[tl]at Y;exact Y
   have e2:names[j]?=some (names.getD ⇑v ⟨#[]⟩):=by rw[vz ⋯,e]
   have e3:names[⇑v]?=some (names.getD ⇑v ⟨#[]⟩):=by rw[vy,vz ⋯];rfl
   have:=j2 nd e2;have:=j2 nd e3;lia
  rw[Xt ⋯ xn];generalize I:upd aC d _=H17;have aN:H17 d=some (.dK (iH (names.take (⇑v+1)) (X++[g]))):=by
   rw[take_snoc (show names[⇑v]?=some (names.getD ⇑v ⟨#[]⟩) by rw[vy,vz ⋯];rfl)];exact qT I
  have J:∀c u,c≠d->H15 c=some u->H17 c=some u:=λc u hc h=>I▸(jh hc).trans (ay _ _ h)
  clear I;have aB:=n.add (fa:=fa) (l:=l) (c:=c) (f:=f) (ks:=ks) (g:=g) (H':=H17) S (by rw[<-km a7];exact hf) a7 mv lg gb an ⋯ ⋯ nW (λx u h1 h2 h3 h4 h=>J _ _ h4 (k4 _ _ h1 h2 h3 h)) (J _ _ a4.symm (Z _ _ S.mp (s14 _ _ (ac _ _ S.nm.symm aK)))) (J _ _ (L n.ed) (Z _ _ (L n.ep) (s14 _ _ (ac _ _ (L n.n.en) ao)))) (J _ _ a5.symm (Z _ _ S.np (s14 _ _ aL))) (J _ _ ag.symm aM) (J _ _ (Je t14 (s14 _ _ (k3 _ _ a4 a5 n.ed)) λz=>by cases z) (Z _ _ aX t14)) aN;exact⟨_,_,_,_,_,M++[c],G++[l],v++[f],W++[ks],X++[g],rfl,λx u h=>J _ _ (je h aQ) (k4 _ _ (je h aR) (je h aS) (je h aT) (az _ _ h)),aB,S.add ⟨L n.n.en,L n.n.em,L n.ep⟩,by rw[vn,fl];rfl⟩
 rintro S' H7 ⟨o5,ah,ai,a6,R,M,G,v,W,X,rfl,F,C,S,fl⟩
 replace fl:⇑v=B+1:=⋯
 have gl:=C.dk.gl;have tl:⇑(names.take ⇑v)=⇑v:=by rw[vi];lia
 have U:(names.take ⇑v).Nodup:=nd.sublist (take_sublist _ _);exists⟨ud,?_⟩;walk_at"f b hbb H8 s8 t8";have C8:=C.same s8;exists bU (bK.of C8.n.en) (Zc (j:=B) ⋯) ?_;have g:=cM.k (k:=Sum.inr ((names.take ⇑v).getD B ⟨#[]⟩)) C8.ed;rw[kH U ⋯ ⋯]at g;refine⟨d,_,rfl,g,?_⟩;exists⟨ud,?_⟩;walk_at"f r hr' H9 s9 t9";exact q r b pl pp D M names o v _ X H9 (F.trans (s8.trans s9)) (by rw[show ⇑v-1=B by lia];exact t9) ((C8.book t8).same s9) C.dk (C.dk.sn C.fl nd ae ⋯ ⋯ ⋯ lh) fl nL nd nW m1 ⋯ ae lW S.lp C.gb
def XB(T:Txt K mg t)(jT:1<*t.JW t.JY ["_law_script","_law_k"] (Pr.dF K))(jP:1<*t.qd t.qj ["_law_cell","_law_k"] (kY))(J2:1<*t.Q0 t.Q3 ["_law_place","_law_k"] (fV))(yL:2<*t.yS t.yZ ["_law_number","_law_names","_law_movers","_law_limbs","_law_bounds"] (ig))(Jp:1<*t.Qi t.Qk ["_law_form_here","_law_known_here"] (fg))(qL:1<*t.Qs t.Qw ["_law_form_here","_law_names","_law_movers"] (fq))(Qh:1<*t.QY t.Q1 ["_law_names","_law_known_here","_law_most"] (fT))(QE:5<*t.QI t.QK ["_law_script","_law_many","_law_bounds"] (eZ K)):6<*t.yR t.yY ["_law_script","_law_many","_law_bounds"] (eZ K):=by
 specialize T.KN.F.ok jS;let⟨a,bd,ns,y,b0,b1,b2,b3,b4,rfl,hS,a1,m2,aQ,Bd,q⟩:=h;refine⟨_,(jb (jM (jp sE (jy wF (by rfl) T.AE Ar (ja (jq T.Jo jT hr (ja (pv 0) (ja jc jd))) jd)) (jr QN jc jc) (bH _))
   (jf (jv (jq T.ZD QE hr (ja (pv 0) (ja (pv 1) (ja (pv 2) jd))))))
   ju)
  (jb (cj 3 jS.nd (jq T.Jm jP hr (ja (jq T.Jm jP hr (ja (jq T.Jo jT hr (ja (pv 0) (ja jc jd))) (ja jc jd))) (ja jc jd))))
  (jb (cj 4 jS.nd (jN jd))
  (jb (j7 PassesOwn.never rfl (qP (by rfl) T.Qt (ja (jr jQ jc (jr j6 (jr Jf (pv 3) jc) jc)) jd)) (cA 5 jS.nd)
   (jb (cj 6 jS.nd (jr j6 (jq T.Jm jP hr (ja (pv 3) (ja (jr jQ jc (pv 5)) jd))) (jg jw (pv 2) jc)))
   (jf (jR (Jy q3 q4 q5 jH (pv 4) (ja (jJ (ja (jq T.QX J2 hr (ja (jr j6 (pv 3) jc) (ja (pv 5) jd))) (ja (pv 6) jd))) jd))))))
  (jb (cj 7 jS.nd (jN jd))
  (jb (cj 8 jS.nd (jN jd))
  (jb (cj 9 jS.nd zL)
  (jb (cj 10 jS.nd (jN jd))
  (jb (j7 PassesOwn.never rfl (qP (by rfl) T.Qt (ja (jr jQ (pv 1) jc) jd)) (cA 5 jS.nd)
   (jb (cj 11 jS.nd (jq T.Jm jP hr (ja (jq T.Jm jP hr (ja (jq T.Jo jT hr (ja (pv 0) (ja (jr jQ jc (pv 5)) jd))) (ja (jr jQ jc (pv 5)) jd))) (ja (jr jQ jc (pv 5)) jd))))
   (jb (cj 12 jS.nd (jq T.KP yL hr (ja (pv 11) (ja (pv 7) (ja (pv 8) (ja (pv 4) (ja (pv 2) jd)))))))
   (jb (qH (PW.pt (Qc (jp j5 (pv 5) (pv 1) (bH _)) (qQ (jp j5 (jr j6 (jr Jf (pv 3) jc) jc) jc (bH _)))))
    (jf (cj 12 jS.nd (jJ (ja jD (ja (jq T.yJ Qh hr (ja (pv 7) (ja (pv 9) (ja (jg jw (pv 2) jc) jd)))) jd)))))
    ju)
   (jb (qH (jp yE (jq T.Qg Jp hr (ja (pv 12) (ja (pv 9) jd))) (jg jw (pv 2) jc) (bH _))
    (jf (cj 12 jS.nd (jJ (ja jD (ja jc jd)))))
    ju)
   (jb (jR (Jy q3 q4 q5 jH (pv 8) (ja (jq T.ZR qL hr (ja (pv 12) (ja (pv 7) (ja (pv 8) jd)))) jd)))
   (jb (cj 13 jS.nd (jq T.QX J2 hr (ja (jr j6 (pv 3) jc) (ja (jr jQ jc (pv 5)) jd))))
   (jb (qH (PW.pt (Qc (jp j5 (pv 5) (jr j6 (jr Jf (pv 3) jc) (jr jQ (pv 1) jc)) (bH _)) (qQ (jp j5 (jr j6 (jr Jf (pv 3) jc) jc) jc (bH _)))))
    (jf (cj 13 jS.nd (jg jk (jg jw (pv 4) (jr j6 (pv 5) (jy jI (by rfl) T.Jl jZ (ja (pv 4) jd)))) jc)))
    ju)
   (jb (jR (Jy q3 q4 q5 jH (pv 7) (ja (pv 13) jd)))
   (jb (jR (Jy q3 q4 q5 jH (pv 10) (ja (jJ (ja (jg jw (pv 7) (pv 5)) (ja (pv 12) jd))) jd)))
   (jf (Zl (Jz hr) (pv 9) (jg jw (pv 7) (pv 5)) (jq T.Qg Jp hr (ja (pv 12) (ja (pv 9) jd))) rfl))))))))))))
  (jf (jv (jJ (ja (jJ (ja (pv 4) (ja (pv 10) jd))) (ja (JN (Jz hr) (pv 9) (jg jw (pv 7) (pv 1))) jd)))))))))))))),?_⟩
 rotate_right 311
 have as:=Bd;let⟨eb,aw,ax,ay,az,aA,aB,aC,aD,ak,al⟩:=Bd;exists⟨a,ns,_,rfl,hS,a1,⋯,?_⟩;refine⟨_,rfl,?_⟩;exists bT (λc=>?_) (λc=>?_)
 .ac_nf;exact⟨a,bd,ns,y,b0,b1,b2,b3,b4,rfl,hS,a1,m2,aQ,as,q⟩
 clear c;exists⟨a,ns,_,rfl,hS,a1,⋯,?_⟩;exists⟨_,_,rfl,⋯,⋯,?_⟩;exists⟨_,_,rfl,⋯,⋯,?_⟩;have hb:=Q4 (c9 (Pr.cell ns 0) 0) 90;generalize c9 (c9 (Pr.cell ns 0) 0) 90=hd at hb|-;obtain⟨p,e3⟩:∃p:Nat,hd%3=(p:Int):=⟨(hd%3).toNat,⋯⟩
 have hp:p<3:=⋯
 exists⟨va _,?_⟩;walk_at"f pl hpl H1 s1 t1";exists⟨_,rfl,⋯,⋯,?_⟩;refine QM (λi σ H'=>i9 λ(o5 o6:N3) (D:L7) (o:L4)=>rQ (σ=[↥a,some (.int (y:Nat)),↥bd,~~~hd,↥pl,o5,o6,none,none,none,none,none,none,none]) (bI H H') (H' pl=some (.lst (D.map V.ref))) (bL (eQ H') D o) (bF o=mV p i) (⇑o=i) (∀q∈o,0<=q.2/\q.2<=10^18)) ⟨_,_,[],[],rfl,s1,t1,.nil,rfl,rfl,(λq h=>nomatch h)⟩ ?_ ?_
 .rintro i σ H' hi ⟨o5,o6,D,o,rfl,F,Y,la,nm,ll,lh⟩;have i4:i<8:=⋯
  have aq:=la.1;exists⟨_,_,rfl,⋯,⋯,?_⟩;exists bU (bK.of (F _ _ eb)) rfl ?_;ac_nf;have v0:=ve (c9 hd (200+(0+(i:Int)))) (show b2≠0 by lia);have v1:=vf (c9 hd (200+(0+(i:Int)))) (show 0<b2 by lia);generalize c9 hd (200+(0+(i:Int)))%b2=v at v0 v1|-;refine⟨.inl ⟨rfl,_,bK.of Y⟩,?_⟩;exists⟨p,i,by rw[e3,ux];rfl,hp,⋯,?_⟩;exists⟨ud,?_⟩;sleep 3;exists⟨pl,_,_,rfl,rfl,s3 _ _ Y,by rw[vt];lia,?_⟩;have kt:∀c xs,H3 c=some (.tup xs)->upd H3 pl (.lst (D.map V.ref++[.ref p3])) c=some (.tup xs):=λc xs h=>(jh (Je h (s3 _ _ Y) λz=>by cases z)).trans h
  refine⟨_,_,D++[p3],o++[(iL p i,v)],rfl,λc u h=>?_,by rw[jA,vj];rfl,(la.mono λc x h=>kt _ _ (s3 _ _ h)).snoc (kt _ _ t3),?_,by rw[vn,ll];rfl,λq hq=>?_⟩
  .refine(jh ?_).trans (s3 _ _ (F _ _ h));exact je h hpl
  .rw[Bc,<-nm];unfold bF;rw[vj];rfl
  .rcases vh.mp hq with z | z
   .exact lh q z
   .rw[vo.mp z];exact⟨v0,by show v<=10^18;lia⟩
 rintro S' H2 ⟨o5,o6,D,o,rfl,F,Y,la,nm,ll,lh⟩;have m1:1<=⇑o:=⋯
 have m4:⇑o<=8:=⋯
 replace nm:bF o=mV p ⇑o:=by rw[nm,ll]
 let⟨ab,lW⟩:=C1 (m:=⇑o) hp ⋯;rw[<-nm]at ab lW;clear ll s1 t1 H1;have Ll:⇑(bF o)=⇑o:=vt _;have aq:=la.1;obtain⟨cc,aM⟩:∃cc:Nat,∀i:Nat,i<=y->(i=cc↔((i:Int)=hd/48%((y:Int)+1)/\hd/24%2=0)):=by
  have u0:=ve (hd/48) (show((y:Int)+1)≠0 by lia);have u1:=vf (hd/48) (show(0:Int)<(y:Int)+1 by lia);by_cases c:hd/24%2=0
  .exact⟨(hd/48%((y:Int)+1)).toNat,λi hi=>⋯⟩
  .exact⟨100,λi hi=>⋯⟩
 let⟨nd,nW⟩:=Dq (p:=p) (st:=9) (c:=cc) (m:=⇑o) hp m1 ⋯ ⋯;have ng:∀{k:Nat},k<17->(nG p 9 cc ⇑o).getD k ⟨#[]⟩=iL p (mU 9 cc ⇑o k):=λh=>B0 h
 have nL:=B3 (p:=p) (st:=9) (c:=cc) (m:=⇑o);generalize nG p 9 cc ⇑o=names at nd nW ng nL;exists⟨va _,?_⟩;walk_at"f nl hnl H3 s3 t3";exists⟨va _,?_⟩;walk_at"f ml hml H4 s4 t4";ac_nf;walk_at"f d hd' H5 s5 t5";exists⟨va _,?_⟩;walk_at"f pp hpp H6 s6 t6";have ah:=s4.trans (s5.trans s6);have a5:=s3.trans ah;have BB:mS pl nl ml d pp D [] [] o names [] [] [] b4 H6:=by
  refine⟨⟨ah _ _ t3,s6 _ _ (s5 _ _ t4),.nil,(λks hk=>nomatch hk),rfl,va _,⋯,(λx hx=>nomatch hx),lW⟩,⟨a5 _ _ Y,la.mono λc x h=>a5 _ _ h,m1⟩,s6 _ _ t5,t6,.nil,⟨rfl,rfl,(λi f h=>by simp at h),λi h=>uf h (Nat.not_lt_zero i)⟩,λj X=>uf X (Nat.not_lt_zero j),va _⟩
 have SS:oS pl nl ml pp bd []:=⟨je Y hnl,je (s3 _ _ Y) hml,je (s5 _ _ (s4 _ _ (s3 _ _ Y))) hpp,je t3 hml,je (s5 _ _ (s4 _ _ t3)) hpp,je (s5 _ _ t4) hpp,je (F _ _ eb) hnl,je (s3 _ _ (F _ _ eb)) hml,je (s5 _ _ (s4 _ _ (s3 _ _ (F _ _ eb)))) hpp,(λx hx=>nomatch hx)⟩
 have aK:H nl=none:=none_of F hnl;have aJ:H ml=none:=none_of (F.trans s3) hml;have aI:H d=none:=none_of (F.trans (s3.trans s4)) hd';have aL:H pp=none:=none_of (F.trans (s3.trans (s4.trans s5))) hpp;have aS:=F.trans a5;clear a5 ah t3 t4 t5 t6 Y la F s3 s4 s5 s6 hnl hml hd' hpp;exists⟨_,rfl,⋯,⋯,?_⟩;refine QM (λi σ H'=>rT λ(o5 ae af Z:N3) (M G:L7) (B:List Fn) (U:List L8) (W:L5)=>eE (σ=[↥a,some (.int (y:Nat)),↥bd,~~~hd,↥pl,o5,o6,↥nl,↥ml,↥d,↥pp,ae,af,Z]) (bI H H') (mS pl nl ml d pp D M G o names B U W b4 H') (oS pl nl ml pp bd G/\⇑B=i))
  ⟨_,_,_,_,[],[],[],[],[],rfl,aS,BB,SS,rfl⟩ ?_ ?_
 .rintro i σ H7 hi ⟨o5,ae,af,Z,M,G,B,U,W,rfl,F,C,S,fl⟩;have aO:i<17:=⋯
  have tl:⇑(names.take ⇑B)=⇑B:=by rw[vi];lia
  have aV:⇑M=⇑B:=C.pa.1.trans qN;have gl:=C.dk.gl;have Ml:⇑U=⇑B:=by have:=C.n.ml;lia
  have aU:⇑G=⇑B:=by have:=C.n.am.1;lia
  have R:(names.take ⇑B).Nodup:=nd.sublist (take_sublist _ _);have ac:∀j,j<⇑B->1<=W.getD j 0/\W.getD j 0<=b4:=λj X=>⟨(C.dk.g j X).1,C.gb j X⟩
  exists⟨a,ns,_,rfl,F.seq hS,a1,⋯,?_⟩;exists⟨_,_,rfl,⋯,⋯,?_⟩;exists⟨_,_,rfl,⋯,⋯,?_⟩;have nb:=Q4 (c9 (Pr.cell ns (1+(0+(i:Int)))) (1+(0+(i:Int)))) (91+(0+(i:Int)));generalize c9 (c9 (Pr.cell ns (1+(0+(i:Int)))) (1+(0+(i:Int)))) (91+(0+(i:Int)))=num at nb|-;exists⟨num,nl,ml,pl,bd,G,D,o,names.take ⇑B,U,b0,b1,b2,b3,b4,rfl,C.n,C.l,⟨F _ _ eb,aw,ax,ay,az,aA,aB,aC,aD,ak,al⟩,⋯,⋯,λan f0 H8 s8 a8 N=>?_⟩;rw[tl]at N;have C8:=C.same s8;exists⟨λS' H'=>fE λ(fa:Addr) (f:Fn)=>i6 (S'=[↥a,some (.int (y:Nat)),↥bd,~~~hd,↥pl,some (.int (0+(i:Int))),o6,↥nl,↥ml,↥d,↥pp,~~~num,↥fa,Z]) (bI H8 H') (bN H' fa (cL (names.take ⇑B) f)/\dS (bF o) (U.map (gS (bF o))) ⇑B f),?_,?_⟩
  rotate_left
  .exists bT (λc=>?_) (λc=>?_)
   .exists bT (λc2=>?_) (λc2=>?_)
    .exists bU (bK.of (s8 _ _ (F _ _ eb))) rfl ?_;exists⟨nl,d,names.take ⇑B,W,b4,rfl,C8.n.en,C8.ed,R,⋯,⋯,⋯,λj X=>ac j ⋯,λb is H9 s9 e9 ne l5 jl=>?_⟩;exists⟨ud,?_⟩;walk_at"f fa hfa H10 s10 t10";ac_nf;exact⟨fa,.row is,rfl,s9.trans s10,⟨b,t10,s10 _ _ e9⟩,ne,⋯,λj X=>by have:=jl j X;lia⟩
    .ac_nf;exact⟨an,f0,rfl,bI.refl _,a8,N⟩
   .ac_nf;exact⟨an,f0,rfl,bI.refl _,a8,N⟩
  rintro S' H9 ⟨ao,f1,rfl,s9,a9,a0⟩;have C9:=C8.same s9;have ai:=F.trans (s8.trans s9);clear C8 C a8 N s8 s9 F;exists⟨λS' H'=>fZ λ(fa:Addr) (f:Fn) (g:Int)=>m9 (S'=[↥a,some (.int (y:Nat)),↥bd,~~~hd,↥pl,some (.int (0+(i:Int))),o6,↥nl,↥ml,↥d,↥pp,~~~num,↥fa,Z]) (bI H9 H') (bN H' fa (cL (names.take ⇑B) f)) (dS (bF o) (U.map (gS (bF o))) ⇑B f) (fx W f g/\g<=b4),?_,?_⟩
  rotate_left
  .exists⟨ao,d,f1,names.take ⇑B,W,bF o,U.map (gS (bF o)),rfl,a9,C9.ed,R,⋯,by rw[tl];exact a0,λj X=>by have:=ac j ⋯;lia,λg H10 s10 lg=>?_⟩;exists bU (bK.of (s10 _ _ (ai _ _ eb))) rfl ?_;exists bT (λc=>?_) (λc=>?_)
   .exists⟨ud,?_⟩;walk_at"f fa hfa H11 s11 t11";ac_nf;exact⟨fa,.hold 1,1,rfl,s10.trans s11,t11,⟨by decide,by decide⟩,rfl,ak⟩
   .ac_nf;exact⟨ao,f1,g,rfl,s10,bN.same s10 a9,a0,lg,⋯⟩
  rintro S' H10 ⟨fa,f,g,rfl,s10,hf,a4,lg,gb⟩;have n:=C9.same s10;have ar:=ai.trans s10;clear C9 a9 a0 s10 ai;exists⟨.inl ⟨rfl,_,bK.of n.n.em⟩,?_⟩;exists⟨fa,nl,ml,G,f,names.take ⇑B,U,bF o,U.map (gS (bF o)),rfl,hf,n.n.en,n.n.em,n.n.am,R,⋯,⋯,by rw[tl];exact a4,λks hk=>by have:=n.n.il.len hk;lia,λl ks H11 s11 hl Y mv kl=>?_⟩;exists⟨ml,_,_,rfl,rfl,s11 _ _ n.n.em,by rw[vt];lia,?_⟩;generalize I:upd H11 ml _=H12;have aE:H12 ml=some (.lst ((G++[l]).map V.ref)):=by rw[vj];exact qT I
  have ap:∀c u,c≠ml->H11 c=some u->H12 c=some u:=λc u hc h=>I▸(jh hc).trans h
  clear I;have k2:∀c u,c≠ml->H10 c=some u->H12 c=some u:=λc u hc h=>ap c u hc (s11 _ _ h)
  have L:∀{c u},H10 c=some u->l≠c:=λh=>(je h hl).symm
  have am:=ap _ _ (L n.n.em) Y;have a2:d≠ml:=Je n.ed n.n.em (λz=>by cases z);have a3:d≠nl:=Je n.ed n.n.en (λz=>by cases z);have ad:d≠pp:=Je n.ed n.ep (λz=>by cases z);exists⟨p,9+i,by rw[e3,show(9+(0+(i:Int)))=((9+i:Nat):Int) by lia];rfl,hp,⋯,?_⟩;exists⟨λS' H'=>S'=[↥a,some (.int (y:Nat)),↥bd,~~~hd,↥pl,some (.int (0+(i:Int))),o6,↥nl,↥ml,↥d,↥pp,~~~num,↥fa,some (.str (names.getD ⇑B ⟨#[]⟩))]/\H12=H',?_,?_⟩
  rotate_left
  .have hz:=aM i ⋯;have nk:=ng aO;rw[<-fl]at nk;exists bT (λc=>?_) (λc=>?_)
   .exists bT (λc2=>?_) (λc2=>?_)
    .have ic:i=cc:=hz.mpr ⟨⋯,c2⟩;exists⟨_,_,rfl,.inl ⟨_,bK.of (k2 _ _ S.lm n.l.el),rfl⟩,?_⟩;rw[vt,aq];ac_nf;rw[show(0+(i:Int))%(⇑o:Int)=((i%⇑o:Nat):Int) by rw[ux];exact(Int.natCast_emod _ _).symm];have jm:=Nat.mod_lt i (show 0<⇑o by lia);let⟨lk,aN,aH⟩:=n.l.la.get (vz jm);have a6:H10 lk=some (.tup [.str (o[i%⇑o]).1,.int (o[i%⇑o]).2]):=aH;refine bU (bK.of (k2 _ _ S.lm n.l.el)) (jK (j:=i%⇑o) (by rw[vv,aN];rfl)) ?_;exists bO (k2 _ _ (Je a6 n.n.em λz=>by cases z) a6) ?_;exists⟨?_,rfl⟩;have ew:(o[i%⇑o]).1=iL p (i%⇑o):=by
      have h1:(bF o)[i%⇑o]?=some (o[i%⇑o]).1:=by unfold bF;rw[vv,vz jm];rfl
      rw[nm,C0 jm]at h1;exact(vL h1).symm
     rw[nk,fl];unfold mU;rw[vd ic,ew]
    .exists⟨?_,rfl⟩;rw[nk,fl];unfold mU;rw[vc (λz=>c2 (hz.mp z).2)]
   .exists⟨?_,rfl⟩;rw[nk,fl];unfold mU;rw[vc (λz=>c (by have:=(hz.mp z).1;lia))]
  rintro S' aT ⟨rfl,rfl⟩;exists⟨.inl ⟨rfl,_,bK.of (k2 _ _ S.nm n.n.en)⟩,?_⟩;exists⟨nl,_,_,rfl,rfl,k2 _ _ S.nm n.n.en,by rw[vt];lia,?_⟩;generalize I:upd H12 nl _=H13;have a7:H13 nl=some (.lst ((names.take (⇑B+1)).map V.str)):=by
   rw[take_snoc (show names[⇑B]?=some (names.getD ⇑B ⟨#[]⟩) by rw[vy,vz ⋯];rfl),vj];exact qT I
  have aa:∀c u,c≠nl->H12 c=some u->H13 c=some u:=λc u hc h=>I▸(jh hc).trans h
  clear I;have aj:d0 ((names.take (⇑B+1)).map V.str) (0+(i:Int))=some (.str (names.getD ⇑B ⟨#[]⟩)):=by
   rw[<-fl,ux];refine jK ?_;rw[vv,uq ⋯,vy,vz ⋯];rfl
  have k3:∀c u,c≠ml->c≠nl->H10 c=some u->H13 c=some u:=λc u h1 h2 h=>aa c u h2 (k2 c u h1 h)
  exists⟨.inl ⟨rfl,_,bK.of (k3 _ _ S.mp.symm S.np.symm n.ep)⟩,?_⟩;exists bU (bK.of a7) (aj) ?_;exists⟨ud,?_⟩;walk_at"f c hc H14 s14 t14";exists⟨pp,_,_,rfl,rfl,s14 _ _ (k3 _ _ S.mp.symm S.np.symm n.ep),by rw[vt];lia,?_⟩;generalize I:upd H14 pp _=H15;have aF:H15 pp=some (.lst ((M++[c]).map V.ref)):=by rw[vj];exact qT I
  have O:∀c u,c≠pp->H14 c=some u->H15 c=some u:=λc u hc h=>I▸(jh hc).trans h
  clear I;have k4:∀c u,c≠ml->c≠nl->c≠pp->H10 c=some u->H15 c=some u:=λc u h1 h2 h3 h=>O c u h3 (s14 _ _ (k3 c u h1 h2 h))
  have kt:∀c xs,H10 c=some (.tup xs)->H15 c=some (.tup xs):=λc xs h=>k4 c _ (Je h n.n.em λz=>by cases z) (Je h n.n.en λz=>by cases z) (Je h n.ep λz=>by cases z) h
  have aR:c≠pp:=(je (k3 _ _ S.mp.symm S.np.symm n.ep) hc).symm;exists⟨fa,d,f,names.take ⇑B,W,bF o,U.map (gS (bF o)),rfl,bN.keep kt hf,k4 _ _ a2 a3 ad n.ed,R,⋯,by rw[tl];exact a4,λj X=>by have:=ac j ⋯;lia,λg' av ag aP=>?_⟩;obtain rfl:=lg.uniq aP;exists bU (bK.of (ag _ _ (O _ _ S.np (s14 _ _ a7)))) (aj) ?_;refine⟨d,_,rfl,fP.k (k:=Sum.inr (names.getD ⇑B ⟨#[]⟩)) (ag _ _ (k4 _ _ a2 a3 ad n.ed)) (by rw[Xs ⋯];lia),?_⟩;have xn:names.getD ⇑B ⟨#[]⟩∉names.take ⇑B:=λz=>by
   let⟨j,X,e⟩:=mem_iff_getElem.mp z;rw[getElem_take]at e;have jl:j<⇑B:=by rw[tl]at X;exact X
   have e2:names[j]?=some (names.getD ⇑B ⟨#[]⟩):=by rw[vz ⋯,e]
   have e3:names[⇑B]?=some (names.getD ⇑B ⟨#[]⟩):=by rw[vy,vz ⋯];rfl
   have:=j2 nd e2;have:=j2 nd e3;lia
  rw[Xt ⋯ xn];generalize I:upd av d _=H17;have aG:H17 d=some (.dK (iH (names.take (⇑B+1)) (W++[g]))):=by
   rw[take_snoc (show names[⇑B]?=some (names.getD ⇑B ⟨#[]⟩) by rw[vy,vz ⋯];rfl)];exact qT I
  have J:∀c u,c≠d->H15 c=some u->H17 c=some u:=λc u hc h=>I▸(jh hc).trans (ag _ _ h)
  clear I;have au:=n.add (fa:=fa) (l:=l) (c:=c) (f:=f) (ks:=ks) (g:=g) (H':=H17) S (by rw[<-km a4];exact hf) a4 mv lg gb al ⋯ ⋯ nW (λx u h1 h2 h3 h4 h=>J _ _ h4 (k4 _ _ h1 h2 h3 h)) (J _ _ a2.symm (O _ _ S.mp (s14 _ _ (aa _ _ S.nm.symm aE)))) (J _ _ (L n.ed) (O _ _ (L n.ep) (s14 _ _ (aa _ _ (L n.n.en) am)))) (J _ _ a3.symm (O _ _ S.np (s14 _ _ a7))) (J _ _ ad.symm aF) (J _ _ (Je t14 (s14 _ _ (k3 _ _ a2 a3 n.ed)) λz=>by cases z) (O _ _ aR t14)) aG;exact⟨_,_,_,_,M++[c],G++[l],B++[f],U++[ks],W++[g],rfl,λx u h=>J _ _ (je h aI) (k4 _ _ (je h aJ) (je h aK) (je h aL) (ar _ _ h)),au,S.add ⟨L n.n.en,L n.n.em,L n.ep⟩,by rw[vn,fl];rfl⟩
 rintro S' H7 ⟨o5,ae,af,Z,M,G,B,U,W,rfl,F,C,S,fl⟩
 replace fl:⇑B=y+1:=⋯
 have gl:=C.dk.gl;have tl:⇑(names.take ⇑B)=⇑B:=by rw[vi];lia
 have R:(names.take ⇑B).Nodup:=nd.sublist (take_sublist _ _);exists⟨ud,?_⟩;walk_at"f b hbb H8 s8 t8";have C8:=C.same s8;exists bU (bK.of C8.n.en) (Zc (j:=y) ⋯) ?_;have g:=cM.k (k:=Sum.inr ((names.take ⇑B).getD y ⟨#[]⟩)) C8.ed;rw[kH R ⋯ ⋯]at g;refine⟨d,_,rfl,g,?_⟩;exists⟨ud,?_⟩;walk_at"f r hr' H9 s9 t9";exact q r b pl pp D M names o B _ W H9 (F.trans (s8.trans s9)) (by rw[show ⇑B-1=y by lia];exact t9) ((C8.book t8).same s9) C.dk (C.dk.sn C.fl nd ab ⋯ ⋯ ⋯ lh) fl nL nd nW m1 ⋯ ab lW S.lp C.gb
def WD(T:Txt K mg t)(X:1<*t.Qi t.Qk ["_law_form_here","_law_known_here"] (fg)):2<*t.ZY t.Z5 ["_law_book_here"] (gy):=by
 specialize T.kq.F.ok QV;let⟨b,pl,pp,a1,x,ls,a,S,M,l,rfl,B,q⟩:=h;refine⟨_,(jb (cj 1 QV.nd zL)
  (jb (j7 PassesOwn.never rfl (jY (jg jk (pv 0) jc)) (Ju rfl (jz (cA 2 QV.nd) (jz (cA 3 QV.nd) Jc)))
   (jf (Zl (Jz hr) (pv 1) (pv 2) (jq T.Qg X hr (ja (pv 3) (ja (pv 1) jd))) rfl)))
  (jf (jv (pv 1))))),?_⟩
 rotate_right 103
 have O:⇑x=⇑S:=B.bk.pa.1.trans qN;have gl:=B.d.gl;have fn:=B.fn;have Z:=B.rJ;ac_nf;walk_at"f d hd H1 s1 t1";have N:∀{c u},H c=some u->c≠d:=λh=>je h hd
 exists bO (s1 _ _ B.bk.t) ?_;refine⟨pp,rfl,⟨_,bK.of (s1 _ _ B.bk.p)⟩,?_⟩;refine Jw (xs:=x.map V.ref) (λi F o=>fE λ(C D:N3)=>dH (F=[↥b,↥d,C,D]) (bI H o/\o d=some (.dK (iH (a.take i) (l.take i))))) ⟨_,_,rfl,s1,t1⟩ ?_ ?_ ?_
 .rintro i F o _ ⟨C,D,rfl,n,p⟩;exact bK.of (n _ _ B.bk.p)
 .rintro i v F o hv ⟨C,D,rfl,n,p⟩;let⟨c,pt,rfl,L,fb,J,hf⟩:=B.bk.pa.cz hv;let⟨f,r,rfl⟩:=qM L;have il:=(vx.mp r).1;let⟨m,mv,ln⟩:=B.d.f i f r;have W:⇑(a.take i)=i:=by rw[vi];lia
  have a0:⇑(l.take i)=i:=by rw[vi];lia
  have I:∀j,j<i->(l.take i).getD j 0=l.getD j 0:=λj y=>by rw[vy,vy,uq y]
  refine J0 (bV.of (n _ _ J)) ?_;exists⟨fb,d,f,a.take i,l.take i,bF ls,M,rfl,bN.same n (by rw[km m];exact hf),p,B.nd.sublist (take_sublist _ _),⋯,by rw[W];exact m,λj y=>by rw[I j ⋯];exact B.d.g j ⋯,λg H2 U lg=>?_⟩;have G:g=l.getD i 0:=lg.uniq (ln.tk m.js.2);subst G;exists⟨d,_,rfl,fP.k (k:=Sum.inr (a.getD i ⟨#[]⟩)) (U _ _ p) (by rw[Xs ⋯];lia),?_⟩;have R:a[i]?=some (a.getD i ⟨#[]⟩):=by rw[vy,vz ⋯];rfl
  have G:l[i]?=some (l.getD i 0):=by rw[vy,vz ⋯];rfl
  have xn:a.getD i ⟨#[]⟩∉a.take i:=λz=>by
   let⟨j,y,e⟩:=mem_iff_getElem.mp z;rw[getElem_take]at e;rw[W]at y;have Y:a[j]?=some (a.getD i ⟨#[]⟩):=by rw[vz ⋯,e]
   have:=j2 B.nd Y;have:=j2 B.nd R;lia
  rw[Xt ⋯ xn];refine⟨_,_,rfl,λc u h=>(jh (N h)).trans (U _ _ (n _ _ h)),?_⟩;rw[jA,take_snoc R,take_snoc G]
 .rintro F o ⟨C,D,rfl,n,p⟩;rw[vt,O,show l.take ⇑S=l by rw[<-gl,v5]]at p;ac_nf;exact q d o n p
def WJ(T:Txt K mg t)(ZT:2<*t.ZY t.Z5 ["_law_book_here"] (gy)):3<*t.Z0 t.Z7 ["_law_book_here","_law_number"] (gI):=by
 specialize T.ku.F.ok jV;let⟨b,pl,pp,ai,O,ls,e,p,M,C,n0,rfl,B,n1,n2,q⟩:=h;refine⟨_,(jb (cj 2 jV.nd (Js (EN rfl) (by rfl) T.Dc Cs (ja (jg jk (pv 0) jc) jd)))
  (jb (jo (i:=3) jV.nd rfl (.inr rfl) (jq T.kq ZT hr (ja (pv 0) jd)))
  (jb (cj 4 jV.nd (jg jk (jg jw (jg jk (pv 0) jc) (qG JI jc)) jc))
  (jb (cj 5 jV.nd jc)
  (jb (cj 6 jV.nd (jN jd))
  (jb (Wj PassesOwn.never (jp YI (jg jk (JN (Jz hr) (pv 2) (pv 4)) jc) (jJ (ja jD (ja jD (ja jD jd)))) (by with_unfolding_all rfl))
   (jb (cj 7 jV.nd (JN (Jz hr) (pv 2) (pv 4)))
   (jb (qH (jp j5 (jg jk (pv 7) jc) jD (bH _))
    (jb (cj 5 jV.nd (jr jQ (pv 5) (jr qq (jr j6 (pv 1) (jg jk (pv 7) jc)) (JN (Jz hr) (pv 3) (jg jk (pv 7) jc)))))
    (jf (cj 4 jV.nd (jg jk (pv 7) jc))))
    (jb (cj 8 jV.nd (jr j6 (pv 1) (jy jI (by rfl) T.Jl jZ (ja (jg jk (pv 7) jc) jd))))
    (jb (qH (jp j5 (jg jk (pv 7) jc) jD (bH _))
     (jf (cj 5 jV.nd (jr jQ (pv 5) (jy (zr rfl) (by rfl) T.WX Kr (ja (Jj (ow:=["_law_one"]) (ci:=[3]) rfl (bM.of (bG QB) ["_law_book_here","_law_number","_law_forms","_law_known_here","_law_name","_law_base","_law_found","_law_form_here","_law_at"] rfl rfl ∅) (JM nofun) (yg (Q5 ua (jg jk (pv 7) jc) Zk (QU (pv 8)))) (λ_ _ _ _ _=>⟨(cA 0 (jW ["_law_book_here","_law_number","_law_forms","_law_known_here","_law_name","_law_base","_law_found","_law_form_here","_law_at"] rfl ∅)),JS,(JN (Jz hr) (pv 1) (pv 0))⟩)) jd)))))
     ju)
    (jf (cj 4 jV.nd (jg jk (jg jk (pv 7) jc) (pv 8)))))))
   (jb (cj 1 jV.nd (jr j6 (jr qq (pv 1) jc) (jr jQ (jr QN jc jc) jc)))
   (jf (jR (Jy q3 q4 q5 jH (pv 6) (ja (pv 5) jd))))))))
  (jb (jR (Jy q3 q4 q5 jH (pv 6) (ja (jr jQ (pv 5) (JN (Jz hr) (pv 3) (pv 4))) jd)))
  (jf (jv (Jj (ow:=["_law_beat"]) (ci:=[]) rfl (bM.of (bG QB) ["_law_book_here","_law_number","_law_forms","_law_known_here","_law_name","_law_base","_law_found","_law_form_here","_law_at"] rfl rfl ∅) (JM nofun) (jY (pv 6)) (λ_ _ _ _ _=>⟨(cA 0 (jW ["_law_book_here","_law_number","_law_forms","_law_known_here","_law_name","_law_base","_law_found","_law_form_here","_law_at"] rfl ∅)),(XY (jp yE (pv 0) jc (bH _))),(pv 0)⟩))))))))))),?_⟩
 rotate_right 207
 have a7:⇑O=⇑p:=B.bk.pa.1.trans qN;have gl:=B.d.gl;have fn:=B.fn;have al:=B.rJ;have f1:=B.f1;let⟨g,hg⟩:=B.forms;have tl:⇑(e.take ⇑p)=⇑p:=by rw[vi];lia
 have aj:(e.take ⇑p).Nodup:=B.nd.sublist (take_sublist _ _);have tg:∀j,j<⇑p->(e.take ⇑p).getD j ⟨#[]⟩=e.getD j ⟨#[]⟩:=λj Y=>by rw[vy,vy,uq Y]
 have U:∀j,j<⇑p->p[j]?=some (p.getD j (.hold 0)):=λj Y=>by rw[vy,vz Y];rfl
 exists bO B.bk.t ?_;refine⟨pp,O,rf e g ⇑p,rfl,B.bk.p,by unfold rf;rw[vt,length_range];exact a7,λi a q' h1 h2=>?_,?_⟩
 .have il:i<⇑p:=by have:=(vx.mp h1).1;lia
  rw[CV il]at h2;cases h2;exact(hg i _ (U i il)).1 a h1
 walk_at"f fd hfd H1 s1 t1";exists⟨b,pl,pp,ai,O,ls,e,p,M,C,rfl,B.same s1,λd H2 s2 ed=>?_⟩;have L:=s1.trans s2;have B2:=B.same L;exists bO B2.bk.t ?_;ac_nf;obtain⟨la,a4⟩:∃la,O[⇑p-1]?=some la:=⟨_,vz ⋯⟩
 have ad:=(hg _ _ (U (⇑p-1) ⋯)).1 la a4;refine bU (bK.of B2.bk.p) (Ap (n:=⇑p) f1 (by rw[vt];exact a7) (by rw[vv,a4];rfl)) ?_;exists bO (L _ _ ad) ?_;exists⟨va _,?_⟩;walk_at"f pf hpf H3 s3 t3";have gF:∀(h:Hp) j,h fd=some (.dK (cC [] ((rf e g ⇑p).map rN)))->j<⇑p->cM h fd (.str (e.getD j ⟨#[]⟩)) (some (.ref (g j))):=λh j eh Y=>by
  have z:=cM.k (k:=Sum.inr (e.getD j ⟨#[]⟩)) eh;rw[Ir B.nd fn Y]at z;exact z
 have gK:∀(h:Hp) j,h d=some (.dK (iH (e.take ⇑p) C))->j<⇑p->cM h d (.str (e.getD j ⟨#[]⟩)) (some (.int (C.getD j 0))):=λh j eh Y=>by
  have z:=cM.k (k:=Sum.inr ((e.take ⇑p).getD j ⟨#[]⟩)) eh;rw[kH aj ⋯ ⋯,tg j Y]at z;exact z
 have np:∀{c u},H2 c=some u->c≠pf:=λh=>je h hpf
 exists⟨λm σ D=>oj λ(j:Nat) (base o:Int) (xs:L5) (o7 o8:N3)=>m6 (σ=[↥b,~~~o,↥fd,↥d,some (.str (e.getD j ⟨#[]⟩)),~~~base,↥pf,o7,o8]) (∀c u,c≠pf->H2 c=some u->D c=some u) (D pf=some (.lst (xs.map V.int))) (j<⇑p) (0<=base) (base+C.getD j 0<=C.getD (⇑p-1) 0) (0<=o) (o<=10^70) (⇑xs+j<⇑p) ((∀x∈xs,0<=x/\x<=C.getD (⇑p-1) 0)/\j=m),
  ⟨_,⇑p-1,0,n0,[],_,_,rfl,λc u _ h=>s3 _ _ h,t3,⋯,vA _,⋯,n1,n2,by show 0+_<_;lia,(λx h=>nomatch h),rfl⟩,?_⟩
 rintro m σ H4 ⟨j,base,o,xs,o7,o8,rfl,k4,e4,jl,ab,ak,ap,aq,xl,xb,rfl⟩;have ah:bI H H4:=λc u h=>k4 _ _ (np (L _ _ h)) (L _ _ h)
 have a2:=k4 _ _ (np (s2 _ _ t1)) (s2 _ _ t1);have S:=k4 _ _ (np ed) ed;have X:=U j jl;let⟨R,mv,ln⟩:=B.d.f j _ X;have hF:=bN.same ah (hg j _ X).2;have gj:=B.d.g j jl;generalize p.getD j (.hold 0)=f at X R mv ln hF;let⟨ft,ac,a8⟩:=FO hF;exists⟨fd,_,rfl,gF H4 j a2 jl,?_⟩;exists cD (bV.of ac) (a8) ?_;exists⟨uc,?_⟩;sleep 5;refine⟨p5,_,rfl,.inr (bV.of t5),rfl,iP ["row","side","again"],?_⟩;rw[LO];refine⟨_,rfl,?_⟩;have e5:=s5 _ _ e4;have W:=bN.same s5 hF;have k5:∀c u,c≠pf->H2 c=some u->H5 c=some u:=λc u n h=>s5 _ _ (k4 c u n h)
 cases er:sY f with
 | false=>
  refine fH ?_;exists⟨.inl ⟨rfl,_,bK.of e5⟩,?_⟩;exists⟨d,_,rfl,gK H5 j (s5 _ _ S) jl,?_⟩;exists⟨pf,_,_,rfl,rfl,e5,by rw[vt];lia,?_⟩;generalize eG:upd H5 pf _=H6;have e6:H6 pf=some (.lst ((xs++[base+C.getD j 0]).map V.int)):=by rw[vj];exact qT eG
  have k6:∀c u,c≠pf->H2 c=some u->H6 c=some u:=λc u n h=>eG▸(jh n).trans (k5 c u n h)
  clear eG;exists⟨pf,rfl,⟨_,bK.of e6⟩,?_⟩;generalize eY:xs++[base+C.getD j 0]=N at e6;have yl:⇑N<=20:=by rw[<-eY,vn];show _+1<=20;lia
  have yb:∀y∈N,0<=y/\y<=C.getD (⇑p-1) 0:=λy Z=>by
   rw[<-eY]at Z;rcases vh.mp Z with z | z
   .exact xb y z
   .rw[vo.mp z];lia
  clear eY;refine JC (xs:=N.map V.int) (λi zs D=>zs=((N.take i).filter λy=>decide (0<y)).map V.int/\H6=D) ⟨rfl,rfl⟩ ?_ ?_ ?_
  .rintro i zs D _ ⟨rfl,rfl⟩;exact bK.of e6
  .rintro i v zs D hv ⟨rfl,rfl⟩;rw[vv]at hv;let⟨y,Z,rfl⟩:=vg.mp hv;have iy:=(vx.mp Z).1;refine Jq (S':=[none]) rfl ?_;ac_nf;rw[take_snoc Z,filter_append];have lf:⇑((N.take i).filter λy=>decide (0<y))<=20:=vW (length_filter_le _ _) (by rw[vi];lia);refine bT (λc=>?_) (λc=>?_)
   .exists⟨by rw[vt];lia,?_,rfl⟩;rw[vj,v8,vd (vG c),filter_nil];rfl
   .refine⟨?_,rfl⟩;rw[v8,vc (by rw[vH c];exact vF),filter_nil,append_nil]
  rintro zs D ⟨rfl,rfl⟩;rw[show(N.map V.int).length=⇑N from vt _,v5];have lf:⇑(N.filter λy=>decide (0<y))<=20:=vW (length_filter_le _ _) yl;refine⟨by rw[vt];lia,?_⟩;walk_at"f l hl H7 s7 t7";exists q l _ H7 (λc u h=>s7 _ _ (k6 _ _ (np (L _ _ h)) (L _ _ h))) t7 ⋯ λy Z=>?_
  let⟨z1,z2⟩:=vP.mp Z;have:=yb y z1;have:=of_decide_eq_true z2;lia
 | true=>
  refine dq ?_;refine⟨λσ D=>oj λ(I:Nat) (base o:Int) (xs:L5) (o7 o8:N3)=>m6 (σ=[↥b,~~~o,↥fd,↥d,some (.str (e.getD I ⟨#[]⟩)),~~~base,↥pf,o7,o8]) (∀c u,c≠pf->H2 c=some u->D c=some u) (D pf=some (.lst (xs.map V.int))) (I<⇑p) (0<=base) (base+C.getD I 0<=C.getD (⇑p-1) 0) (0<=o) (o<=10^70) (⇑xs+I<⇑p) ((∀x∈xs,0<=x/\x<=C.getD (⇑p-1) 0)/\I<j),
   (by rintro S' D ⟨I,base,o,xs,o7,o8,h1,h2,h3,h4,h5,h6,h7,h8,h9,ae,af⟩;exact⟨_,af,I,base,o,xs,o7,o8,h1,h2,h3,h4,h5,h6,h7,h8,h9,ae,rfl⟩),?_⟩
  exists⟨fd,_,rfl,gF H5 j (s5 _ _ a2) jl,?_⟩;exists⟨λS' D=>fZ λ(I:Nat) (r:Int) (a6:N3)=>eE (S'=[↥b,~~~o,↥fd,↥d,some (.str (e.getD I ⟨#[]⟩)),~~~r,↥pf,some (.ref (g j)),a6]) (bI H5 D) (I<j) (0<=r/\r+C.getD I 0<=C.getD (⇑p-1) 0),?_,?_⟩
  rotate_left
  .cases f with
   | hold _=>cases er
   | ring _ _=>cases er
   | rise _ _ _=>cases er
   | again k F=>
    have G:H5 (g j)=some (.tup _):=W;let⟨p1,p2,p3⟩:=R;have ln:C.getD j 0=k*C.getD F 0:=ln;have an:=B.d.g F ⋯;have r0:=ve o (show k≠0 by lia);have r1:=vf o (show 0<k by lia);exists bO G ?_;exists cF ?_;exists bO G ?_;exists bO G ?_;refine⟨d,_,rfl,gK H5 F (s5 _ _ S) ⋯,?_⟩;exists bO G ?_;ac_nf;have m1:=Int.mul_nonneg r0 (show 0<=C.getD F 0 by lia);have m2:(o%k+1)*C.getD F 0<=k*C.getD F 0:=Int.mul_le_mul_of_nonneg_right ⋯ ⋯;rw[Int.add_mul,Int.one_mul]at m2;exact⟨F,_,_,rfl,bI.refl _,p3,⋯,⋯⟩
   | row is=>
    let⟨bb,G,hb⟩:=W;let⟨p1,p2,p3⟩:=R;have il:1<=⇑is:=length_pos_iff.mpr p1;have ln:C.getD j 0=(is.map λj=>C.getD j 0).sum:=ln;have r0:=ve o (show(⇑is:Int)≠0 by lia);have r1:=vf o (show(0:Int)<(⇑is:Int) by lia);exists bO G ?_;exists bQ ?_;exists bO G ?_;refine⟨_,_,rfl,.inr ⟨_,bV.of hb,rfl⟩,?_⟩;rw[vt,vt];ac_nf;obtain⟨t,et⟩:∃t:Nat,o%(⇑is:Int)=(t:Int):=⟨(o%(⇑is:Int)).toNat,⋯⟩
    rw[et]at r0 r1|-;have a1:t<⇑is:=⋯
    obtain⟨F,J⟩:∃F,is[t]?=some F:=⟨_,vz a1⟩
    have sp:=Cm (g:=λj=>C.getD j 0) (λi hi=>by have:=p3 i hi;have:=B.d.g i ⋯;show 0<=C.getD i 0;lia) J;have a0:=p3 F (vm J);refine⟨λS' D=>S'=[↥b,~~~o,↥fd,↥d,some (.str (e.getD j ⟨#[]⟩)),some (.int (base+((is.take t).map λj=>C.getD j 0).sum)),↥pf,some (.ref (g j)),some (.int (t:Nat))]/\bI H5 D,?_,?_⟩
    rotate_left
    .exists bO G ?_;exists cF ?_;exists bO G ?_;ac_nf;have lm:⇑((is.map λj=>e.getD j ⟨#[]⟩).map V.str)=⇑is:=by rw[vt,vt]
     refine⟨bb,_,rfl,bV.of hb,λz=>?_,?_⟩
     .have z2:=z.2;rw[HT.X6,lm]at z2;lia
     sleep 6;rw[Df,<-map_take,<-map_take]at t6;refine⟨p6,rfl,⟨_,bV.of t6⟩,?_⟩;refine Qu (xs:=((is.take t).map λj=>e.getD j ⟨#[]⟩).map V.str) (λu N D=>N=(((is.take t).take u).map λj=>C.getD j 0).map V.int/\H6=D) ⟨rfl,rfl⟩ ?_ ?_ ?_
     .rintro u N D _ ⟨rfl,rfl⟩;exact bV.of t6
     .rintro u v N D hv ⟨rfl,rfl⟩;rw[vv,vv]at hv;let⟨x,hx,rfl⟩:=vg.mp hv;let⟨i',a3,rfl⟩:=vg.mp hx;have im:=p3 i' (mem_of_mem_take (vm a3));refine Jq (S':=[none,↥d]) rfl ?_;exists dq ?_;exists⟨d,_,rfl,gK H6 i' (s6 _ _ (s5 _ _ S)) ⋯,?_⟩;refine⟨by rw[vt,vt,vi,vi];lia,?_,rfl⟩;rw[take_snoc a3,vj,vj];rfl
     rintro N D ⟨rfl,rfl⟩;rw[show(((is.take t).map λj=>e.getD j ⟨#[]⟩).map V.str).length=⇑(is.take t) by rw[vt,vt],v5];refine⟨by rw[vt,vt,vi];lia,?_⟩;sleep 7;exists⟨p7,_,rfl,bK.of t7,?_⟩;ac_nf;exact⟨rfl,s6.trans s7⟩
    rintro S' H8 ⟨rfl,s8⟩;exists bO (s8 _ _ G) ?_;exists cD (bV.of (s8 _ _ hb)) (jK (j:=t) (by rw[vv,vv,J];rfl)) ?_;ac_nf;exact⟨F,_,_,rfl,s8,a0,⋯,⋯⟩
   | side is=>
    let⟨bb,G,hb⟩:=W;let⟨p1,p2,p3,p4⟩:=R;let⟨_,lm⟩:=ln;have r0:=ve o (show(⇑is:Int)≠0 by lia);have r1:=vf o (show(0:Int)<(⇑is:Int) by lia);exists bO G ?_;exists bQ ?_;exists bO G ?_;refine⟨_,_,rfl,.inr ⟨_,bV.of hb,rfl⟩,?_⟩;rw[vt,vt];ac_nf;obtain⟨t,et⟩:∃t:Nat,o%(⇑is:Int)=(t:Int):=⟨(o%(⇑is:Int)).toNat,⋯⟩
    rw[et]at r0 r1|-;have a1:t<⇑is:=⋯
    obtain⟨F,J⟩:∃F,is[t]?=some F:=⟨_,vz a1⟩
    have a5:=vm J;have a0:=p3 F a5;have ao:=lm F a5;refine⟨λS' D=>S'=[↥b,~~~o,↥fd,↥d,some (.str (e.getD j ⟨#[]⟩)),~~~base,↥pf,some (.ref (g j)),some (.int (t:Nat))]/\H5=D,?_,?_⟩
    rotate_left
    .exists bO G ?_;exists bQ ?_;ac_nf;exact⟨rfl,rfl⟩
    rintro S' H8 ⟨rfl,rfl⟩;exists bO G ?_;exists cD (bV.of hb) (jK (j:=t) (by rw[vv,vv,J];rfl)) ?_;ac_nf;exact⟨F,_,_,rfl,bI.refl _,a0,ab,⋯⟩
  rintro S' H6 ⟨I,r,a6,rfl,s6,ag,a9,aa⟩;have am:=B.d.g I ⋯;have e6:=s6 _ _ e5;exists LI ?_;ac_nf;have w0:=ve (o*48271) (show(10^36+67:Int)≠0 by decide);have w1:=vf (o*48271) (show(0:Int)<10^36+67 by decide);refine⟨.inl ⟨rfl,_,bK.of e6⟩,?_⟩;exists⟨pf,_,_,rfl,rfl,e6,by rw[vt];lia,?_⟩;refine⟨I,r,_,xs++[r],_,_,rfl,λc u n h=>(jh n).trans (s6 _ _ (k5 c u n h)),by rw[jA,vj];rfl,⋯,a9,aa,w0,⋯,by rw[vn];show _+1+_<_;lia,λx hx=>?_,ag⟩;rcases vh.mp hx with z | z
  .exact xb x z
  .rw[vo.mp z];lia
def WE(T:Txt K mg t):1<*t.zf t.zj ["_law_box"] (gA):=by
 specialize T.kr.F.ok Zz;let⟨bx,l,f,a5,M,ls,ks,o,hs,rfl,B,X,N,q⟩:=h;refine⟨_,(jb (jo (i:=1) Zz.nd rfl (.inr rfl) (jN jd))
  (jb (j7 PassesOwn.never rfl (jY (jg jk (pv 0) jc)) (cA 2 Zz.nd)
   (jf (jM (jp j5 (jg jk (pv 2) jc) jD (bH _))
    (jf (jR (Jy q3 q4 q5 jH (pv 1) (ja (jy (zr rfl) (by rfl) T.WX Kr (ja (Jj (ow:=["_law_k"]) (ci:=[1]) rfl (bM.of (bG QA) ["_law_box","_law_longs_here","_law_form_here"] rfl rfl ∅) (JM nofun) (yg (jg jk (pv 2) jc)) (λ_ _ _ _ _=>⟨(cA 0 (jW ["_law_box","_law_longs_here","_law_form_here"] rfl ∅)),JS,(jg (zI (K:=K) rfl) (pv 1) (pv 0))⟩)) jd)) jd))))
    (jf (jM (jp j5 (jg jk (pv 2) jc) jD (bH _))
     (jf (jR (Jy q3 q4 q5 jH (pv 1) (ja (jy (Ks rfl) (by rfl) T.uv xV (ja (Jj (ow:=["_law_k"]) (ci:=[1]) rfl (bM.of (bG QA) ["_law_box","_law_longs_here","_law_form_here"] rfl rfl ∅) (JM nofun) (yg (jg jk (pv 2) jc)) (λ_ _ _ _ _=>⟨(cA 0 (jW ["_law_box","_law_longs_here","_law_form_here"] rfl ∅)),JS,(jg (zI (K:=K) rfl) (pv 1) (pv 0))⟩)) jd)) jd))))
     (jf (jM (jp j5 (jg jk (pv 2) jc) jD (bH _))
      (jf (jR (Jy q3 q4 q5 jH (pv 1) (ja (jr qq (jg jk (pv 2) jc) (jg jw (pv 1) (jg jk (pv 2) jc))) jd))))
      (jf (jR (Jy q3 q4 q5 jH (pv 1) (ja (jg jk (pv 2) (jr JZ (jy jI (by rfl) T.Jl jZ (ja (pv 2) jd)) jc)) jd)))))))))))
  (jf (jv (pv 1))))),?_⟩
 rotate_right 102
 have sz:(2000:Nat)<sizeLine:=by decide
 have dl:=B.d.1;have a4:=X.nF;have W:=N.s.w;have gl:=N.s.gl;rw[Jr]at gl;exists⟨(by show 0<=sizeLine;lia),?_⟩;walk_at"f p hp H1 s1 t1";have m1:∀{c u},H c=some u->c≠p:=λh=>je h hp
 exists bO (s1 _ _ B.t) ?_;refine⟨f,rfl,⟨_,bK.of (s1 _ _ B.f)⟩,?_⟩;refine Jw (xs:=M.map V.ref) (λi σ L=>dQ λ(o2:N3)=>dH (σ=[↥bx,↥p,o2]) (bI H L/\L p=some (.lst ((o.take i).map V.int)))) ⟨_,rfl,s1,t1⟩ ?_ ?_ ?_
 .rintro i σ L _ ⟨o2,rfl,F,y⟩;exact bK.of (F _ _ B.f)
 .rintro i v σ L J ⟨o2,rfl,F,y⟩;rw[vv]at J;let⟨a,ha,rfl⟩:=vg.mp J;have hi:=(vx.mp ha).1;obtain⟨d,Y⟩:∃d,ks[i]?=some d:=⟨_,vz ⋯⟩
  have G:=(B.d.2 i a d ha Y).same F;have a0:=yV (ls:=ls) Y;have Z:∀j∈d.ns,j<i:=λj z=>X.dw.lt i d Y j z
  have l8:=X.dw.l8 d (vm Y);have D:=N.s.ln i _ a0;rw[show bY (cK ls ks) ((fD i,lT (bF ls) d):Str×Fm).2=d.ns from Xm W λj z=>by have:=Z j z;lia]at D;have gi:o[i]?=some (o.getD i 0):=by rw[vy,vz ⋯];rfl
  have C:∀(G:Hp) (g:Int),bI H G->g=o.getD i 0->bI H (upd G p (.lst ((o.take i).map V.int++[.int g])))/\upd G p (.lst ((o.take i).map V.int++[.int g])) p=some (.lst ((o.take (i+1)).map V.int)):=λG g sG e=>⟨λc u h=>(jh (m1 h)).trans (sG _ _ h),by rw[jA,take_snoc gi,vj,e];rfl⟩
  have tl:⇑((o.take i).map V.int)<sizeLine:=by rw[vt,vi];lia
  have lf:(∃(r:Str) (O:N2),L a=some (.tup (.str r::O))/\r≠"row"/\r≠"side"/\r≠"again"/\⇑O<=3/\(V.str r::O)[⇑O]?=some (.int (o.getD i 0)))\/(∃m,d = .row m)\/(∃m,d = .side m)\/∃k j,d = .again k j:=by
   cases d with
   | hold n=>exact .inl ⟨"hold",_,G,by trivial,by trivial,by trivial,by show 1<=3;decide,by rw[<-D.2 n rfl];rfl⟩
   | ring x n=>exact .inl ⟨"ring",_,G,by trivial,by trivial,by trivial,by show 2<=3;decide,by rw[<-D.2 n rfl];rfl⟩
   | rise x h n=>exact .inl ⟨"raise",_,G,by trivial,by trivial,by trivial,by show 3<=3;decide,by rw[<-D.2 n rfl];rfl⟩
   | row m=>exact .inr (.inl ⟨_,rfl⟩)
   | side m=>exact .inr (.inr (.inl ⟨_,rfl⟩))
   | again k j=>exact .inr (.inr (.inr ⟨_,_,rfl⟩))
  have gj:∀j∈d.ns,d0 ((o.take i).map V.int) (j:Int)=some (.int (o.getD j 0)):=λj z=>jK (by rw[vv,uq (Z j z),vy,vz (by have:=Z j z;lia)];rfl)
  rcases lf with⟨r,O,S,a1,a2,a3,v3,vl⟩ | ⟨m,rfl⟩ | ⟨m,rfl⟩ | ⟨k,j,rfl⟩
  .exists cD (bV.of S) (dZ) ?_;exists bT (λc=>uf c a1) (λ_=>?_);exists cD (bV.of S) (dZ) ?_;exists bT (λc=>uf c a2) (λ_=>?_);exists cD (bV.of S) (dZ) ?_;exists bT (λc=>uf c a3) (λ_=>?_);exists⟨.inl ⟨rfl,_,bK.of y⟩,?_⟩;exists⟨_,_,rfl,.inr ⟨_,bV.of S,rfl⟩,?_⟩;exists cD (bV.of S) (by rw[show((⇑(V.str r::O):Nat):Int)-1=((⇑O:Nat):Int) by rw[vQ];lia];exact jK vl) ?_;exists⟨p,_,_,rfl,rfl,y,tl,?_⟩;exact⟨_,rfl,C _ _ F rfl⟩
  .have jl:⇑m<=8:=l8;let⟨b,R,U⟩:=G;exists cD (bV.of R) (dZ) ?_;exists bT (λ_=>?_) (λc=>uf rfl c);exists⟨.inl ⟨rfl,_,bK.of y⟩,?_⟩;exists bO R ?_;refine⟨b,rfl,⟨_,bV.of U⟩,?_⟩;refine Qu (xs:=m.map vN) (λu I G=>I=((m.take u).map λj=>o.getD j 0).map V.int/\L=G) ⟨rfl,rfl⟩ ?_ ?_ ?_
   .rintro u I G _ ⟨rfl,rfl⟩;exact bV.of U
   .rintro u v I G J ⟨rfl,rfl⟩;rw[vv]at J;let⟨j,z,rfl⟩:=vg.mp J;refine Jq (S':=[none,↥p]) rfl ?_;exists dq ?_;exists bU (bK.of y) (gj j (vm z)) ?_;refine⟨by rw[vt,vt,vi];lia,?_,rfl⟩;rw[take_snoc z,vj,vj];rfl
   rintro I G ⟨rfl,rfl⟩;rw[show m.take ⇑(m.map vN)=m by rw[vt,v5]];refine⟨by rw[vt,vt];lia,?_⟩;sleep 5;exists⟨p5,_,rfl,bK.of t5,?_⟩;exists⟨p,_,_,rfl,rfl,s5 _ _ y,tl,?_⟩;exact⟨_,rfl,C _ _ (F.trans s5) (D.2 _ rfl)⟩
  .have jl:⇑m<=8:=l8;let⟨b,R,U⟩:=G;exists cD (bV.of R) (dZ) ?_;exists bT (λc=>uf c ∅) (λ_=>?_);exists cD (bV.of R) (dZ) ?_;exists bT (λ_=>?_) (λc=>uf rfl c);exists⟨.inl ⟨rfl,_,bK.of y⟩,?_⟩;exists bO R ?_;refine⟨b,rfl,⟨_,bV.of U⟩,?_⟩;refine Qu (xs:=m.map vN) (λu I G=>I=((m.take u).map λj=>o.getD j 0).map V.int/\L=G) ⟨rfl,rfl⟩ ?_ ?_ ?_
   .rintro u I G _ ⟨rfl,rfl⟩;exact bV.of U
   .rintro u v I G J ⟨rfl,rfl⟩;rw[vv]at J;let⟨j,z,rfl⟩:=vg.mp J;refine Jq (S':=[none,↥p]) rfl ?_;exists dq ?_;exists bU (bK.of y) (gj j (vm z)) ?_;refine⟨by rw[vt,vt,vi];lia,?_,rfl⟩;rw[take_snoc z,vj,vj];rfl
   rintro I G ⟨rfl,rfl⟩;rw[show m.take ⇑(m.map vN)=m by rw[vt,v5]];refine⟨by rw[vt,vt];lia,?_⟩;sleep 5;ac_nf;have jn:0<⇑(m.map λj=>o.getD j 0):=length_pos_iff.mpr (D.1:(m.map λj=>o.getD j 0)≠[]);refine⟨p5,_,rfl,bK.of t5,jn,λg g1 g2=>?_⟩;exists⟨p,_,_,rfl,rfl,s5 _ _ y,tl,?_⟩;exact⟨_,rfl,C _ _ (F.trans s5) (D.2 g ⟨g1,g2⟩)⟩
  .exists cD (bV.of G) (dZ) ?_;exists bT (λc=>uf c ∅) (λ_=>?_);exists cD (bV.of G) (dZ) ?_;exists bT (λc=>uf c ∅) (λ_=>?_);exists cD (bV.of G) (dZ) ?_;exists bT (λ_=>?_) (λc=>uf rfl c);exists⟨.inl ⟨rfl,_,bK.of y⟩,?_⟩;exists bO G ?_;exists bO G ?_;exists bU (bK.of y) (gj j (by simp[Dm.ns])) ?_;ac_nf;have gb:=N.g (i:=j) (by rw[Jr];have:=Z j (by simp[Dm.ns]);lia);let⟨_,_,e,k0,k1,_⟩:=D.1;cases e;refine⟨_,_,rfl,rfl,pj ⋯ ⋯ ⋯ ⋯,?_⟩;exists⟨p,_,_,rfl,rfl,y,tl,?_⟩;exact⟨_,rfl,C _ _ F (D.2 _ ⟨_,rfl,rfl⟩)⟩
 rintro S' H2 ⟨o2,rfl,F,y⟩;rw[vt,show o.take ⇑M=o by rw[show ⇑M=⇑o by lia,v5]]at y;ac_nf;exact q p H2 F hp y
def HI(T:Txt K mg t):1<*t.xO t.Xf ["start","goal","beats","j"] (Pr.Ci):=by
 refine T.C7.F.ok II (λf H Q E h=>?_) (λd A a s H f Q E i h=>?_)
 .let⟨e,g,b,j,rfl,c,q⟩:=h;rfl
 let⟨e,g,b,j,rfl,c,q⟩:=h;refine⟨_,(jf (jv (jr jQ (pv 0) (jr Jf (jr qq (jr JZ (pv 1) (pv 0)) (pv 3)) (pv 2))))),?_⟩;refine jB (S':=[some _,some _,some _,some _]) rfl ?_
 try dsimp only[eF,Cx.lL]
 unfold Pr.B4 at c;ac_nf;exact q
def Ej(T:Txt K mg t):1<*t.zC t.zF ["pieces","sizes","gone"] (dP):=by
 specialize T.Y1.F.ok qI;let⟨l,s0,b,bs,O,a,rfl,S,W,U,q8,ok,t1,t2,q⟩:=h;refine⟨_,(jb (cj 3 qI.nd (jN jd))
  (jb (j7 PassesOwn.never rfl (jY (pv 0)) (Ju rfl (jz (cA 4 qI.nd) (jz (cA 5 qI.nd) (jz (cA 6 qI.nd) Jc))))
   (jf (jM (jp xy (pv 6) (pv 2) (bH _))
    (jb (cj 7 qI.nd (jy (YB rfl) (by rfl) T.uw xW (ja (jr Jf (jr JZ (pv 2) (pv 6)) (jg jw (pv 1) (pv 4))) (ja (pv 5) jd))))
    (jb (cj 8 qI.nd (We (jp Zj (pv 7) (pv 5) (bH _)) (jr JZ (jr JZ (pv 2) (pv 6)) (jr qq (pv 7) (jg jw (pv 1) (pv 4)))) Wf))
    (jf (jR (Jy q3 q4 q5 jH (pv 3) (ja (jJ (ja (pv 4) (ja (pv 6) (ja (pv 7) (ja (pv 8) jd))))) jd))))))
    ju)))
  (jf (jv (pv 3))))),?_⟩
 rotate_right 306
 have B:∀j,j<⇑a->a[j]?=some (a.getD j 0):=λj h=>by
  rw[vy,vz h];rfl
 have bl:=W.1;exists⟨va _,?_⟩;walk_at"f p hp H1 s1 e1";have Y:∀{c u},H c=some u->c≠p:=λh=>je h hp
 exists⟨l,rfl,⟨_,bK.of (s1 _ _ S)⟩,?_⟩;refine Jw (xs:=bs.map V.ref) (λi R m=>oj λ(F G I J L:N3) (d:L7)=>eE (R=[↥l,↥s0,~~~b,↥p,F,G,I,J,L]) (bI H m) (m p=some (.lst (d.map V.ref))) (⇑d<=i/\nj m d (cU a b (O.take i))))
  ⟨_,_,_,_,_,[],rfl,s1,e1,vb _,.nil⟩ ?_ ?_ ?_
 .rintro i R m _ ⟨F,G,I,J,L,d,rfl,k,e,X,n⟩;exact bK.of (k _ _ S)
 .rintro i v R m hv ⟨F,G,I,J,L,d,rfl,k,e,X,n⟩;let⟨c,x,rfl,N,hc⟩:=W.cz hv;have hi:=(vx.mp N).1;have C:=ok x (vm N);have D:=C;let⟨Z,g1,g2,n1,n2,b1,b2⟩:=D;have g:cU a b (O.take (i+1))=cU a b (O.take i)++(cm a b x).toList:=by
   rw[take_snoc N];unfold cU;rw[List.filterMap_append];congr 1
  refine Dw (bV.of (k _ _ hc)) ?_;exists bT (λr=>?_) (λr=>?_)
  .have a1:=DG C r;exists bU (bK.of (k _ _ U)) (jK (j:=x.1) (by rw[vv,B _ Z];rfl)) ?_;ac_nf;have eo:(if x.2.1<(b-x.2.2)/a.getD x.1 0 then x.2.1 else(b-x.2.2)/a.getD x.1 0)=ov a b x:=rfl;have a0:(if(b-x.2.2)/a.getD x.1 0>x.2.1 then x.2.1 else(b-x.2.2)/a.getD x.1 0)=ov a b x:=rfl;refine⟨_,_,rfl,?_⟩;rw[eo];exists bT (λM=>?_) (λM=>?_)
   .exists bU (bK.of (k _ _ U)) (jK (j:=x.1) (by rw[vv,B _ Z];rfl)) ?_;exists⟨.inl ⟨rfl,_,bK.of e⟩,?_⟩;exists⟨ub,?_⟩;walk_at"f 2 e";exists⟨p,_,_,rfl,rfl,s2 _ _ e,by rw[vt];lia,?_⟩;have o:p2≠p:=λz=>by rw[z,s2 _ _ e]at e2;cases e2
    refine⟨_,_,_,_,_,d++[p2],rfl,λc u h=>(jh (Y h)).trans (s2 _ _ (k _ _ h)),by rw[jA,vj];rfl,by rw[vn];show ⇑d+1<=_;lia,?_⟩;have f:cm a b x=some (x.1,x.2.2,ov a b x,some (b-x.2.2-ov a b x*a.getD x.1 0)):=by
     unfold cm;rw[vd r,vd M]
    rw[g,f];refine bL.snoc (bL.mono n λc y h=>?_) ((jh o).trans e2);exact(jh (λz=>by rw[z,e]at h;cases h)).trans (s2 _ _ h)
   .exists⟨.inl ⟨rfl,_,bK.of e⟩,?_⟩;exists⟨ub,?_⟩;walk_at"f 2 e";exists⟨p,_,_,rfl,rfl,s2 _ _ e,by rw[vt];lia,?_⟩;have o:p2≠p:=λz=>by rw[z,s2 _ _ e]at e2;cases e2
    refine⟨_,_,_,_,_,d++[p2],rfl,λc u h=>(jh (Y h)).trans (s2 _ _ (k _ _ h)),by rw[jA,vj];rfl,by rw[vn];show ⇑d+1<=_;lia,?_⟩;have f:cm a b x=some (x.1,x.2.2,ov a b x,none):=by
     unfold cm;rw[vd r,vc M]
    rw[g,f];refine bL.snoc (bL.mono n λc y h=>?_) ((jh o).trans e2);exact(jh (λz=>by rw[z,e]at h;cases h)).trans (s2 _ _ h)
  .exists⟨_,_,_,_,_,d,rfl,k,e,⋯,?_⟩;have f:cm a b x=none:=by
    unfold cm;rw[vc r]
   rw[g,f];show nj m d (_++[]);rw[append_nil];exact n
 rintro S' m ⟨F,G,I,J,L,d,rfl,k,e,X,n⟩;rw[vt,bl,v5]at n;ac_nf;exact q p d m k hp e n
def Fc(T:Txt K mg t)(QH:1<*t.zC t.zF ["pieces","sizes","gone"] (dP)):2<*t.wB t.wL ["pieces","sizes","gone"] (gM):=by
 specialize T.Bs.F.ok zw;let⟨l,S,n,bs,C,gs,rfl,el,hq,Y,q8,ok,t1,t2,q⟩:=h;refine⟨_,(jb (cj 3 zw.nd (jN jd))
  (jb (j7 PassesOwn.never rfl (jY (jq T.Y1 QH hr (ja (pv 0) (ja (pv 1) (ja (pv 2) jd))))) (Ju rfl (jz (cA 4 zw.nd) (jz (cA 5 zw.nd) (jz (cA 6 zw.nd) (jz (cA 7 zw.nd) Jc)))))
   (jb (qH (jp yE (pv 6) jc (bH _))
    (jf (jR (Jy q3 q4 q5 jH (pv 3) (ja (jJ (ja (pv 4) (ja (jg jw (pv 1) (pv 4)) jd))) jd))))
    ju)
   (jf (jM (jp B6 (pv 7) Wf (bH _))
    (jf (jR (Jy q3 q4 q5 jH (pv 3) (ja (jJ (ja (pv 4) (ja (pv 7) jd))) jd))))
    ju))))
  (jf (jv (pv 3))))),?_⟩
 rotate_right 305
 have a0:∀j,j<⇑gs->gs[j]?=some (gs.getD j 0):=λj h=>by
  rw[vy,vz h];rfl
 exists⟨va _,?_⟩;walk_at"f p hp H1 s1 e1";have np:∀{c u},H c=some u->c≠p:=λh=>je h hp
 exists⟨l,S,n,bs,C,gs,rfl,s1 _ _ el,bL.mono hq λc x h=>s1 _ _ h,s1 _ _ Y,q8,ok,t1,t2,λl2 W H2 s2 J e2 G=>?_⟩;have a4:=CJ (gs:=gs) (t:=n) C;have U:=G.1;have a1:l2≠p:=λz=>by rw[z,e1]at J;cases J
 have D:=s2 _ _ e1;exists⟨l2,rfl,⟨_,bK.of e2⟩,?_⟩;refine Jw (xs:=W.map V.ref) (λi σ f=>pQ λ(M N O R:N3) (e:L7)=>eE (σ=[↥l,↥S,~~~n,↥p,M,N,O,R]) (∀c u,c≠p->H2 c=some u->f c=some u) (f p=some (.lst (e.map V.ref))) (⇑e<=2*i/\eM f e (((cU gs n C).take i).flatMap (df gs))))
  ⟨_,_,_,_,[],rfl,λc u _ h=>h,D,vb _,.nil⟩ ?_ ?_ ?_
 .rintro i σ f _ ⟨M,N,O,R,e,rfl,m,g,la,B⟩;exact bK.of (m _ _ a1 e2)
 .rintro i v σ f hv ⟨M,N,O,R,e,rfl,m,g,la,B⟩;let⟨c,y,rfl,hy,b⟩:=G.cz hv;have hi:=(vx.mp hy).1;have a2:c≠p:=λz=>by rw[z,D]at b;cases b
  let⟨x,hx,ex⟩:=kK (vm hy);have y1:y.1<⇑gs:=by rw[ZN ex];exact(ok x hx).1
  have k:((cU gs n C).take (i+1)).flatMap (df gs)=((cU gs n C).take i).flatMap (df gs)++df gs y:=by
   rw[take_snoc hy,flatMap_append,flatMap_cons,List.flatMap_nil,append_nil]
  have Z:f S=some (.lst (gs.map V.int)):=m _ _ (np Y) (s2 _ _ (s1 _ _ Y));refine Af (bV.of (m _ _ a2 b)) ?_;exists⟨λS' H3=>dQ λ(a:L7)=>eE (S'=[↥l,↥S,~~~n,↥p,some (.int (y.1:Nat)),~~~y.2.1,~~~y.2.2.1,some (oB y.2.2.2)]) (∀c u,c≠p->f c=some u->H3 c=some u) (H3 p=some (.lst (a.map V.ref))) (⇑a<=2*i+1/\eM H3 a (((cU gs n C).take i).flatMap (df gs)++(if 0<y.2.2.1 then[(y.1,gs.getD y.1 0)]else[]))),?_,?_⟩
  rotate_left
  .exists bT (λX=>?_) (λX=>?_)
   .exists⟨.inl ⟨rfl,_,bK.of g⟩,?_⟩;exists bU (bK.of Z) (jK (j:=y.1) (by rw[vv,a0 _ y1];rfl)) ?_;exists⟨ud,?_⟩;walk_at"f p2 hp2 H3 s3 e3";exists⟨p,_,_,rfl,rfl,s3 _ _ g,by rw[vt];lia,?_⟩;have o:p2≠p:=λz=>by rw[z,s3 _ _ g]at e3;cases e3
    refine⟨e++[p2],rfl,λc u b h=>(jh b).trans (s3 _ _ h),by rw[jA,vj];rfl,by rw[vn];show ⇑e+1<=_;lia,?_⟩;rw[vd X];refine bL.snoc (bL.mono B λc y h=>?_) ((jh o).trans e3);exact(jh (λz=>by rw[z,g]at h;cases h)).trans (s3 _ _ h)
   .exists⟨e,rfl,λc u _ h=>h,g,⋯,?_⟩;rw[vc X,append_nil];exact B
  rintro S' H3 ⟨a,rfl,L,d,a3,I⟩;have F:df gs y=(if 0<y.2.2.1 then[(y.1,gs.getD y.1 0)]else[])++(match y.2.2.2 with | some r=>[(y.1,r)] | none=>[]):=rfl;cases er:y.2.2.2 with
  | none=>
   exists⟨rfl,_,rfl,?_⟩;refine dW (by simp[oB]) ?_;exists⟨_,_,_,_,a,rfl,λc u b h=>L _ _ b (m _ _ b h),d,⋯,?_⟩;rw[k,F,er,append_nil];exact I
  | some r=>
   exists⟨rfl,_,rfl,?_⟩;refine lA (by simp[oB]) ?_;exists⟨.inl ⟨rfl,_,bK.of d⟩,?_⟩;exists⟨ud,?_⟩;walk_at"f p2 hp2 H4 s4 e4";exists⟨p,_,_,rfl,rfl,s4 _ _ d,by rw[vt];lia,?_⟩;have o:p2≠p:=λz=>by rw[z,s4 _ _ d]at e4;cases e4
   refine⟨_,_,_,_,a++[p2],rfl,λc u b h=>(jh b).trans (s4 _ _ (L _ _ b (m _ _ b h))),by rw[jA,vj];rfl,by rw[vn];show ⇑a+1<=_;lia,?_⟩;rw[k,F,er,<-List.append_assoc];refine bL.snoc (bL.mono I λc y h=>?_) ((jh o).trans e4);exact(jh (λz=>by rw[z,d]at h;cases h)).trans (s4 _ _ h)
 rintro S' f ⟨M,N,O,R,e,rfl,m,g,la,B⟩;rw[vt,U,v5]at B;ac_nf;exact q p e f (λc u h=>m _ _ (np h) (s2 _ _ (s1 _ _ h))) hp g B
def Wc(T:Txt K mg t)(wA:2<*t.wB t.wL ["pieces","sizes","gone"] (gM)):3<*t.qU t.qV ["self","beat"] (fv t.jG):=by
 specialize T.Wz.ok JH;let⟨a,z,O,ps,gs,hs,E,t0,rfl,A,N,t1,t2,q⟩:=h;refine⟨_,(jb (jM (yp (Bn xy xy jc (pv 1) (jg jw (JG (pv 0) rfl) (qG JI jc))))
   (jf Yh)
   ju)
  (jb (cj 2 JH.nd (Js zi (by rfl) T.Kq Yz (ja (JG (pv 0) rfl) jd)))
  (jb (cj 3 JH.nd (jN jd))
  (jb (cj 4 JH.nd (jN (ja (jJ (ja (jr JZ (jy jI (by rfl) T.Jl jZ (ja (JG (pv 0) rfl) jd)) jc) (ja (pv 1) jd))) jd)))
  (jb (Wj PassesOwn.never (LH (pv 4) (λ_=>rfl))
   (jb (cj 5 JH.nd (DH q3 PySem.F.slot_list_pop PySem.F.type_list_pop Jk (pv 4)))
   (jf (jM (jp Zj (jg jk (pv 5) jc) (jg jw (JG (pv 0) rfl) (jg jk (pv 5) jc)) (bH _))
    (jb (jR (Jy q3 q4 q5 jH (pv 3) (ja (pv 5) jd)))
    (jf (jR (Jy q3 PySem.F.slot_list_extend PySem.F.type_list_extend E3 (pv 4) (ja (DI (jq T.Bs wA hr (ja (jg jw (JG (pv 0) rfl) (jg jk (pv 5) jc)) (ja (JG (pv 0) rfl) (ja (jg jk (pv 5) jc) jd)))) (QU (qG JI jc))) jd)))))
    (jf (j7 PassesOwn.never rfl (jY (jg jw (JG (pv 0) rfl) (jg jk (pv 5) jc))) (Ju rfl (jz (cA 6 JH.nd) (jz (cA 7 JH.nd) Jc)))
     (jf (Yg (pv 7) (ka (pv 2) (pv 6) set_list)))))))))
  (jf (jv (jJ (ja (pv 2) (ja (pv 3) jd)))))))))),?_⟩
 rotate_right 206
 have W:=N.s.w;have gl:=N.s.gl;have ne:=N.ne;have b1:=W.mW;have lE:=A.el;have M8:∀i,i<⇑ps->⇑(hs.getD i [])<=8:=λi hi=>BY W N.hl N.m (YV N.s N.hl hi)
 have ad:d0 (gs.map V.int) (-1)=some (.int (gs.getD (⇑ps-1) 0)):=we ⋯ (by rw[gl]);have aQ:∀j,j<⇑ps->gs[j]?=some (gs.getD j 0):=λj h=>N.xc h
 let⟨dx,ob⟩:=A.ob;exists bT (λ_=>?_) (λc=>uf t1 c);exists⟨a,_,dx,_,_,rfl,ob,T.jU,T.Jd,zt,?_⟩;exists bU (bK.of A.hs) (ad) ?_;exists dI (λz=>uf t2 z) (λ_=>?_);exists⟨a,_,dx,_,_,rfl,ob,T.jU,T.QT,FN,?_⟩;exists⟨z.f,_,rfl,.inl (bK.of A.hf),?_⟩;walk_at"f 1 e";exists⟨va _,?_⟩;walk_at"f 2 e";have aj:=s1.trans s2;exists⟨a,_,dx,_,_,rfl,aj _ _ ob,T.jU,T.Jd,zt,?_⟩;exists⟨_,_,rfl,.inl ⟨_,bK.of (aj _ _ A.hs),rfl⟩,?_⟩;rw[vt,gl];exists⟨ud,?_⟩;walk_at"f 3 e";exists⟨ue,?_⟩;walk_at"f 4 e";rw[show((⇑ps:Nat):Int)-1=((⇑ps-1:Nat):Int) by lia]at e3;have aI:=aj.trans s3;have aW:=aI.trans s4;have af:p1≠p2:=je e1 hp2;have ag:p1≠p4:=je (s3 _ _ (s2 _ _ e1)) hp4;have ah:p2≠p4:=je (s3 _ _ e2) hp4;have m1:∀{c u},H c=some u->c≠p1:=λh=>je h hp1
 have m2:∀{c u},H c=some u->c≠p2:=λh=>je (s1 _ _ h) hp2
 have m4:∀{c u},H c=some u->c≠p4:=λh=>je (aI _ _ h) hp4
 have aH:=N.nodes M8 (i:=⇑ps-1) (t:=t0) ⋯ t1;have aK:∀h∈O.map (·.2),0<=h/\h<=10^18:=λh hh=>by
  let⟨q0,aS,rfl⟩:=vK.mp hh;exact N.uD q0 aS
 exists⟨λm σ B=>om λ(o5 J L:N3) (d g:L7) (D P S:L3)=>i6 (σ=[↥a,~~~t0,↥p1,↥p2,↥p4,o5,J,L]) (sf O ps gs E t0 H B p1 p2 p4 d g D P S) (P++S.reverse.flatMap (λx=>lV ps gs x.1 x.2)=lV ps gs (⇑ps-1) t0/\m=(S.map λx=>nodes ps gs x.1 x.2).sum),
  ⟨_,none,none,none,[],[p3],[],[],[(⇑ps-1,t0)],rfl,⟨aW,s4 _ _ (s3 _ _ (s2 _ _ e1)),s4 _ _ (s3 _ _ e2),e4,.nil,bL.snoc (as:=[]) (xs:=[]) .nil (s4 _ _ e3),by simp,λx hx=>by rw[vo.mp hx];exact⟨by show ⇑ps-1<_;lia,t1⟩,rfl,(λx hx=>nomatch hx),#v[aH],by show(O.map (·.2)).length=_;rw[vt],aK⟩,by simp,rfl⟩,?_⟩
 rintro m σ B ⟨o5,J,L,d,g,D,P,S,rfl,Sc,a0,rfl⟩;let⟨sm,am,ao,eT,gP,gT,G,hS,hP,bP,aM,ll,hb⟩:=Sc;have a7:⇑S<=(S.map λx=>nodes ps gs x.1 x.2).sum:=DA λx _=>xr (ps:=ps) (gs:=gs) x.1 x.2
 have pl:=gP.1;have tl:=gT.1;exists⟨_,.inl ⟨_,bK.of eT,rfl⟩,?_⟩;rcases List.eq_nil_or_concat S with rfl | ⟨S0,x,rfl⟩
 .have et:g=[]:=List.length_eq_zero_iff.mp tl;subst et;refine fH ?_;ac_nf;rw[show([]:L3).reverse.flatMap (λx=>reach ps gs x.1 x.2)=[]from rfl,append_nil]at G;subst G;have b0:([].map λx:Nat×Int=>nodes ps gs x.1 x.2).sum=0:=rfl;refine⟨ud,?_⟩;walk_at"f 5 e";exact q p5 p1 p2 d P H5 (sm.trans s5) hp1 (none_of s1 hp2) e5 (s5 _ _ am) ll hb (s5 _ _ ao) af (bL.mono gP λc y h=>s5 _ _ h) ⋯ bP hP #v[a0]
 rw[List.concat_eq_append]at *;let⟨b,l,rfl,ay,aB⟩:=bL.last gT;rw[vj]at eT|-;refine lA (by simp) ?_;let⟨x1,x2⟩:=hS x (mem_append_right _ vq);have aA:∀y∈S0,y.1<⇑ps/\0<=y.2:=λy hy=>hS y (mem_append_left _ hy)
 rw[List.reverse_append,flatMap_append,vj,sum_append]at *;have aZ:=xr (ps:=ps) (gs:=gs) x.1 x.2;have au:([x].map λx:Nat×Int=>nodes ps gs x.1 x.2).sum=nodes ps gs x.1 x.2:=by simp
 have aa:([x].reverse.flatMap λx=>reach ps gs x.1 x.2)=reach ps gs x.1 x.2:=by simp
 rw[au]at a7 aM|-;have b2:S0.length<=5000:=by rw[vn]at a7;lia
 have b3:=ay.1;have X:([x].reverse.flatMap λx=>lV ps gs x.1 x.2)=lV ps gs x.1 x.2:=by simp
 rw[aa]at G;rw[X]at a0;refine⟨λσ B=>om λ(o5 J L:N3) (d g:L7) (D P S:L3)=>i6 (σ=[↥a,~~~t0,↥p1,↥p2,↥p4,o5,J,L]) (sf O ps gs E t0 H B p1 p2 p4 d g D P S) (P++S.reverse.flatMap (λx=>lV ps gs x.1 x.2)=lV ps gs (⇑ps-1) t0/\(S.map λx=>nodes ps gs x.1 x.2).sum<(S0.map λx=>nodes ps gs x.1 x.2).sum+nodes ps gs x.1 x.2),
  (by rintro S' B ⟨o5,J,L,d,g,D,P,S,h1,h2,hq,h3⟩;exact⟨_,h3,o5,J,L,d,g,D,P,S,h1,h2,hq,rfl⟩),?_⟩
 exists⟨.inl ⟨rfl,_,bK.of eT⟩,?_⟩;refine⟨p4,_,.ref l,rfl,rfl,eT,by simp,?_⟩;rw[show((b.map V.ref)++[l].map V.ref).dropLast=b.map V.ref by simp];have a1:∀{c:Addr} {xs:N2},B c=some (.tup xs)->c≠p4:=λh z=>by rw[z,eT]at h;cases h
 have s5:bI H (upd B p4 (.lst (b.map V.ref))):=λc u h=>(jh (m4 h)).trans (sm _ _ h)
 have a8:upd B p4 (.lst (b.map V.ref)) p4=some (.lst (b.map V.ref)):=jA;have U:=(jh (o:=HO.lst (b.map V.ref)) ag).trans am;have C:=(jh (o:=HO.lst (b.map V.ref)) ah).trans ao;have ab:eM (upd B p4 (.lst (b.map V.ref))) d P:=bL.mono gP λc y h=>(jh (a1 h)).trans h
 have ac:eM (upd B p4 (.lst (b.map V.ref))) b S0:=bL.mono ay λc y h=>(jh (a1 h)).trans h
 have n:=(jh (o:=HO.lst (b.map V.ref)) (a1 aB)).trans aB;generalize upd B p4 (.lst (b.map V.ref))=H5 at s5 a8 U C ab ac n|-;clear a1;have aP:H5 z.s=some (.lst (gs.map V.int)):=s5 _ _ A.hs;have aF:=s5 _ _ ob;exists bO n ?_;exists⟨a,_,dx,_,_,rfl,aF,T.jU,T.Jd,zt,?_⟩;exists bO n ?_;exists bU (bK.of aP) (jK (j:=x.1) (by rw[vv,aQ _ x1];rfl)) ?_;ac_nf;obtain⟨p,hp⟩:∃p,ps[x.1]?=some p:=⟨_,vz x1⟩
 have ar:bZ ps gs x.1=dt gs p.2 (bY ps p.2):=by unfold bZ;rw[hp]
 refine bT (λc1=>?_) (λc1=>?_)
 .have a2:iI gs x=false:=vH ⋯;have aR:(ps.map λp=>dt gs p.2 (bY ps p.2))[x.1]?=some (bZ ps gs x.1):=by rw[vv,hp,ar];rfl
  let⟨al,aO,bs,Z,hq⟩:=A.pa.get aR;have aX:=(N.g x1).2;have aU:⇑(bZ ps gs x.1)<=8:=by rw[ar];exact Bb (N.i8 hp)
  have wl:=IE (gs:=gs) (t:=x.2) (bZ ps gs x.1);exists⟨.inl ⟨rfl,_,bK.of C⟩,?_⟩;exists⟨p2,_,_,rfl,rfl,C,by rw[vt];lia,?_⟩;have ai:∀{c:Addr} {xs:N2},H5 c=some (.tup xs)->c≠p2:=λh z=>by rw[z,C]at h;cases h
  have s6:bI H (upd H5 p2 (.lst (d.map V.ref++[.ref l]))):=λc u h=>(jh (m2 h)).trans (s5 _ _ h)
  have ap:upd H5 p2 (.lst (d.map V.ref++[.ref l])) p2=some (.lst ((d++[l]).map V.ref)):=by rw[jA,vj];rfl
  have an:=(jh (o:=HO.lst (d.map V.ref++[.ref l])) af).trans U;have a9:=(jh (o:=HO.lst (d.map V.ref++[.ref l])) ah.symm).trans a8;have R:=(jh (o:=HO.lst (d.map V.ref++[.ref l])) (ai n)).trans n;have av:eM (upd H5 p2 (.lst (d.map V.ref++[.ref l]))) (d++[l]) (P++[x]):=bL.snoc (bL.mono ab λc y h=>(jh (ai h)).trans h) R;have az:eM (upd H5 p2 (.lst (d.map V.ref++[.ref l]))) b S0:=bL.mono ac λc y h=>(jh (ai h)).trans h
  generalize upd H5 p2 (.lst (d.map V.ref++[.ref l]))=H6 at s6 ap an a9 R av az|-;exists⟨.inl ⟨rfl,_,bK.of a9⟩,?_⟩;exists⟨a,_,dx,_,_,rfl,s6 _ _ ob,T.jU,T.qF,wT,?_⟩;exists bO R ?_;exists bU (bK.of (s6 _ _ A.hp)) (Z1 (i:=(x.1:Int)) ⋯ aO) ?_;exists⟨a,_,dx,_,_,rfl,s6 _ _ ob,T.jU,T.Jd,zt,?_⟩;exists bO R ?_;exists⟨al,z.s,x.2,bs,bZ ps gs x.1,gs,rfl,s6 _ _ Z,bL.mono hq λc y h=>s6 _ _ h,s6 _ _ A.hs,aU,λq hq=>N.mP hq,x2,⋯,λlw aJ H7 s7 aY ew hw=>?_⟩;exists⟨rfl,lw,_,rfl,bK.of ew,?_⟩;walk_at"f lr hlr H8 s8 e8";have r:=s7.trans s8;have aq:=r _ _ a9;have b4:=hw.1;refine⟨p4,lr,_,_,rfl,rfl,aq,e8,by rw[vt,length_reverse,vt];lia,?_⟩;have a5:∀{c:Addr} {xs:N2},H8 c=some (.tup xs)->c≠p4:=λh z=>by rw[z,aq]at h;cases h
  have aw:=λ(c:Addr) (y:Nat×Int) (h:H6 c=some (.tup [.int (y.1:Nat),.int y.2]))=>(jh (o:=HO.lst (b.map V.ref++(aJ.map V.ref).reverse)) (a5 (r _ _ h))).trans (r _ _ h)
  have aL:∀y∈P++[x],y.1<⇑ps/\0<=y.2/\y.2<gs.getD y.1 0:=λy hy=>by
   rcases vh.mp hy with h | h
   .exact bP y h
   .rw[vo.mp h];exact⟨x1,x2,c1⟩
  refine⟨_,_,_,d++[l],b++aJ.reverse,if fC ps gs x=true then D++[x]else D,P++[x],S0++(du gs x.2 (bZ ps gs x.1)).reverse,rfl,⟨λc u h=>(jh (m4 h)).trans (r _ _ (s6 _ _ h)),?_,(jh ah).trans (r _ _ ap),by rw[jA,vj,map_reverse],bL.mono av aw,?_,?_,?_,?_,aL,?_,?_,?_⟩,?_,?_⟩
  .rw[wY a2];exact(jh ag).trans (r _ _ an)
  .exact bL.app (bL.mono az aw) (bL.mono (bL.rev hw) λc y h=>(jh (a5 (s8 _ _ h))).trans (s8 _ _ h))
  .rw[List.reverse_append,List.reverse_reverse,flatMap_append,<-G];by_cases lf:fC ps gs x=true
   .have c2:bZ ps gs x.1=[]:=List.isEmpty_iff.mp lf;rw[vd lf,c2,j4 (.inr c2),List.append_assoc];rfl
   .have c2:¬(gs.getD x.1 0<=x.2\/bZ ps gs x.1=[]):=λh=>h.elim ⋯ λe=>lf (List.isEmpty_iff.mpr e)
    rw[vc lf,Jv W c2]
  .intro y hy;rcases vh.mp hy with h | h
   .exact aA y h
   .have h:=mem_reverse.mp h;have:=QD W h;exact⟨⋯,Wy (λq hq=>N.mP hq) h⟩
  .rw[filter_append,hP];by_cases lf:fC ps gs x=true
   .rw[vd lf,filter_append,List.filter_cons_of_pos lf,List.filter_cons_of_pos (by rw[a2];rfl)];rfl
   .rw[vc lf,List.filter_cons_of_neg lf];exact append_nil _
  .have:=xq W (i:=x.1) (t:=x.2) c1;rw[vj,sum_append,map_reverse,List.sum_reverse,vn];show ⇑P+1+_<=_;lia
  .rw[wY a2];exact ll
  .rw[wY a2];exact hb
  .rw[List.reverse_append,List.reverse_reverse,flatMap_append,<-a0,X0 W (i:=x.1) (t:=x.2) ⋯,List.append_assoc];rfl
  .have:=xq W (i:=x.1) (t:=x.2) c1;rw[vj,sum_append,map_reverse,List.sum_reverse];lia
 .have a3:iI gs x=true:=vG ⋯;have hE:E[x.1]?=some (E.getD x.1 []):=by rw[vy,vz ⋯];rfl
  let⟨ae,aN,bs,Z,aG⟩:=A.ea.get hE;have ak:=y9 W ⋯ A.eo x.1;have eb:=Dk N lE A.eo x1;have a4:=s5 _ _ Z;exists⟨a,_,dx,_,_,rfl,aF,T.jU,T.zo,Gh,?_⟩;exists bO n ?_;exists bU (bK.of (s5 _ _ A.hl)) (Z1 (i:=(x.1:Int)) ⋯ aN) ?_;refine⟨ae,rfl,⟨_,bK.of a4⟩,?_⟩;have aV:=aG.1;have aT:ae≠p1:=m1 Z;refine Jw (xs:=bs.map V.ref) (λk σ H7=>fE λ(J L:N3)=>eE (σ=[↥a,~~~t0,↥p1,↥p2,↥p4,↥l,J,L]) (∀c u,c≠p1->H5 c=some u->H7 c=some u) (H7 p1=some (.lst ((dj ((E.getD x.1 []).take k) (mh O gs E D)).map V.int))) (⇑(dj ((E.getD x.1 []).take k) (mh O gs E D))=⇑O/\(∀h∈dj ((E.getD x.1 []).take k) (mh O gs E D),0<=h/\h<=10^18)))
   ⟨_,_,rfl,λc u _ h=>h,U,ll,hb⟩ ?_ ?_ ?_
  .rintro k σ H7 _ ⟨J,L,rfl,f,F,_⟩;exact bK.of (f _ _ aT a4)
  .rintro k v σ H7 hv ⟨J,L,rfl,f,F,I,Y⟩;let⟨c',y,rfl,hy,aC⟩:=aG.cz hv;have aD:=vm hy;have yb:=ak y aD;have yh:=eb y aD;refine J0 (bV.of (f _ _ (m1 aC) (s5 _ _ aC))) ?_;ac_nf;have M:dj ((E.getD x.1 []).take (k+1)) (mh O gs E D)=(dj ((E.getD x.1 []).take k) (mh O gs E D)).set y.1.toNat y.2:=by
    unfold dj;rw[take_snoc hy,foldl_append];rfl
   refine⟨p1,_,_,y.1.toNat,rfl,rfl,F,D9 yb.1 (by rw[vt,I];exact yb.2),?_⟩;refine⟨_,_,rfl,λc u hc h=>(jh hc).trans (f _ _ hc h),jA.trans ?_,by rw[M,length_set];exact I,λh hh=>?_⟩
   .rw[M,List.map_set]
   .rw[M]at hh;rcases List.mem_or_eq_of_mem_set hh with z | z
    .exact Y h z
    .rw[z];exact yh
  rintro S' H7 ⟨J,L,rfl,f,F,I,Y⟩;rw[vt,aV,v5]at F I Y;have aE:∀{c:Addr} {xs:N2},H5 c=some (.tup xs)->c≠p1:=λh z=>by rw[z,U]at h;cases h
  have a6:gs.getD x.1 0<=x.2:=⋯
  refine⟨_,_,_,d,b,D++[x],P,S0,rfl,⟨λc u h=>f _ _ (m1 h) (s5 _ _ h),?_,f _ _ af.symm C,f _ _ ag.symm a8,bL.mono ab λc y h=>f _ _ (aE h) h,bL.mono ac λc y h=>f _ _ (aE h) h,?_,aA,?_,bP,⋯,?_,?_⟩,by rw[<-a0,Wh a6,nil_append],⋯⟩
  .rw[wZ a3];exact F
  .rw[<-G,j4 (.inl a6),List.append_assoc]
  .rw[hP,filter_append,List.filter_cons_of_neg (by rw[a3];decide)];exact(append_nil _).symm
  .rw[wZ a3];exact I
  .rw[wZ a3];exact Y
def YR(T:Txt K mg t)(a3:1<*t.xO t.Xf ["start","goal","beats","j"] (Pr.Ci))(qt:3<*t.qU t.qV ["self","beat"] (fv t.jG)):4<*t.JE t.JF ["self","beat"] (dO t.jG):=by
 specialize T.Y3.ok j9;let⟨a,z,d,f,F,hs,E,I,rfl,A,N,t1,t2,q⟩:=h;refine⟨_,(jb (cj 2 j9.nd (kP (pv 0) T.jU T.Yb (qt.mono nofun) hr T.YT .nil c8 (ja (pv 1) jd)))
  (jb (cj 3 j9.nd (jg jk (pv 2) jc))
  (jb (j7 PassesOwn.never rfl (jY (jg jk (pv 2) jc)) (Ju rfl (jz (cA 4 j9.nd) (jz (cA 5 j9.nd) Jc)))
   (jb (cj 6 j9.nd (jg jw (JG (pv 0) rfl) (pv 4)))
   (jf (jM (jp j5 (jg jk (pv 6) jc) jD (bH _))
    (jb (cj 7 j9.nd (JN (Jz hr) (JG (pv 0) rfl) (jg jk (pv 6) jc)))
    (jf (Yg (jq T.C7 a3 hr (ja (jg jw (pv 3) (pv 7)) (ja (jg jk (pv 6) jc) (ja (jg jk (pv 6) jc) (ja (pv 5) jd))))) (ka (pv 3) (pv 7) set_list))))
    ju))))
  (jf (jv (pv 3)))))),?_⟩
 rotate_right 206
 have W:=N.s.w;have lE:=A.el;let⟨dx,ob⟩:=A.ob;exists⟨a,dx,_,rfl,ob,Xk ∅ ∅ ∅ ∅ ∅ ∅,?_⟩;exists⟨a,z,d,f,F,hs,E,I,rfl,A,N,t1,t2,λr M l2 as P H1 s1 S a5 er h1 C m h2 a4 gP pl bP hP _=>?_⟩;have a1:=Ep N lE A.eo t1 hP;exists bO er ?_;exists bO er ?_;have m1:∀{c u},H c=some u->c≠M:=λh=>je h S
 have al:=gP.1;refine⟨l2,rfl,⟨_,bK.of h2⟩,?_⟩;refine Jw (xs:=as.map V.ref) (λi σ l=>i9 λ(Y Z o6 o7:N3)=>eE (σ=[↥a,~~~I,↥r,↥M,Y,Z,o6,o7]) (∀c u,c≠M->H1 c=some u->l c=some u) (l M=some (.lst (((P.take i).foldl (lM d f) (eI d f F E I)).map V.int))) (⇑((P.take i).foldl (lM d f) (eI d f F E I))=⇑d/\(∀h∈((P.take i).foldl (lM d f) (eI d f F E I)),0<=h/\h<=10^18)))
  ⟨_,_,_,_,rfl,λc u _ h=>h,h1,C,m⟩ ?_ ?_ ?_
 .rintro i σ l _ ⟨Y,Z,o6,o7,rfl,G,D,_⟩;exact bK.of (G _ _ a4.symm h2)
 .rintro i v σ l hv ⟨Y,Z,o6,o7,rfl,G,D,C,m⟩;let⟨c,x,rfl,hx,O⟩:=gP.cz hv;let⟨x1,x0,x2⟩:=bP x (vm hx);obtain⟨p,hp⟩:∃p,f[x.1]?=some p:=⟨_,vz x1⟩
  let⟨fb,a0,hf⟩:=A.fo.get hp;have U:(P.take (i+1)).foldl (lM d f) (eI d f F E I)=lM d f ((P.take i).foldl (lM d f) (eI d f F E I)) x:=by
   rw[take_snoc hx,foldl_append];rfl
  rw[U];generalize(P.take i).foldl (lM d f) (eI d f F E I)=hts at D C m|-;have X:∀{c u},H c=some u->l c=some u:=λh=>G _ _ (m1 h) (s1 _ _ h)
  have nc:c≠M:=λz=>by rw[z,h1]at O;cases O
  have J:bN l fb p.2:=bN.put (λb xs m=>X m) hf;refine J0 (bV.of (G _ _ nc O)) ?_;exists⟨a,_,dx,_,_,rfl,X ob,T.jU,T.qv,KB,?_⟩;exists bU (bK.of (X A.ho)) (Z1 (i:=(x.1:Int)) ⋯ a0) ?_;ac_nf;by_cases L:∃y v n,p.2 = .rise y v n
  .let⟨y,v,n,e⟩:=L;rw[e]at J;have B:f[x.1]?=some (p.1,.rise y v n):=by rw[hp,<-e]
   let⟨k,R⟩:=W.r x.1 p.1 y v n B;have ek:=j2 W.ln R;have kl:k<⇑d:=by have:=(vx.mp R).1;rw[bF,vt]at this;exact this
   have o:l fb=some (.tup [.str "raise",.str y,.int v,.int n]):=J;have gx:F.getD x.1 0=n:=((N.s.ln x.1 (p.1,.rise y v n) B).2 n (show hH (.rise y v n) _ n from rfl)).symm;have eA:lM d f hts x=hts.set k (Rp.ramp (hts.getD k 0) v n x.2):=by
    unfold lM;rw[B];show hts.set (cn (bF d) y) (Rp.ramp (hts.getD (cn (bF d) y) 0) v n x.2)=_;rw[ek]
   refine bO o ?_;exists cF ?_;exists⟨a,_,dx,_,_,rfl,X ob,T.jU,T.qY,xa,?_⟩;exists bO o ?_;have g:cM l z.d (.str y) (some (.int (k:Nat))):=by
    have g:=cM.k (k:=Sum.inr y) (X A.hd);rw[Yd W.ln R]at g;exact g
   refine⟨z.d,_,rfl,g,?_⟩;ac_nf;have hh:hts[k]?=some (hts.getD k 0):=by rw[vy,vz ⋯];rfl
   refine bU (bK.of D) (jK (j:=k) (by rw[vv,hh];rfl)) ?_;exists bO o ?_;exists bO o ?_;ac_nf;have h0:=m _ (vm hh);let⟨v0,v1,n1,n2⟩:=N.sU x.1 p.1 y v n B;refine⟨_,_,_,_,rfl,by unfold Pr.B4;lia,?_⟩;exists⟨M,_,_,k,rfl,rfl,D,by unfold lK;simp[C,kl],?_⟩;rw[eA];refine⟨_,_,_,_,rfl,λc u O h=>(jh O).trans (G _ _ O h),jA.trans (by rw[List.map_set]),by rw[length_set];exact C,λh a2=>?_⟩;rcases List.mem_or_eq_of_mem_set a2 with z | z
   .exact m h z
   .rw[z];exact HV h0 ⟨v0,v1⟩ n1 x0 ⋯
  .have eA:lM d f hts x=hts:=by
    unfold lM;rw[hp];let⟨pn,pf⟩:=p;cases pf with
    | rise y v n=>exact uf ⟨y,v,n,rfl⟩ L
    | _=>rfl
   let⟨k,xs,R,dk⟩:=BM J λy v n e=>L ⟨y,v,n,e⟩
   refine cD (bV.of R) (dZ) ?_;exists dW dk ?_;ac_nf;rw[eA];exact⟨_,_,_,_,rfl,G,D,C,m⟩
 rintro S' l ⟨Y,Z,o6,o7,rfl,G,D,C,m⟩;rw[vt,al,v5,a1]at D C;ac_nf;exact q M l (λc u h=>G _ _ (m1 h) (s1 _ _ h)) S D C
def He(T:Txt K mg t)(x:6<*t.JB t.JX ["self","book"] (fS t.jG))(y:4<*t.JE t.JF ["self","beat"] (dO t.jG)):8<*t.xR t.Xg ["book","beat"] (gJ):=by
 specialize T.xI.F.ok GU;let⟨b,L,M,e,f,k,m,g,j,R,rfl,B,N,S,U,q⟩:=h;refine⟨_,(jf (jv (kP (XX T.BX (x.mono nofun) hr (by rfl) T.Be T.ZC .nil c8 (ja (pv 0) jd)) T.jU T.za (y.mono nofun) hr T.zx .nil c8 (ja (pv 1) jd)))),?_⟩;refine jB (S':=[some _,some _]) rfl ?_
 try dsimp only[eF,Cx.lL]
 ac_nf;intro o a i d W;have n:bI H (upd (upd H a (.own o)) o (.ins t.jG a [])):=λc u h=>(jh (je h i)).trans ((jh (je h d)).trans h)
 refine⟨o,a,b,L,M,e,f,k,m,g,j,rfl,jA,B.same n,N,λz E r G A=>⟨rfl,?_⟩⟩;let⟨C,J⟩:=A.ob;have p:bI H r:=λc u h=>G _ _ (je h i) (n _ _ h)
 refine⟨o,C,_,rfl,J,Xk ∅ ∅ ∅ ∅ ∅ ∅,?_⟩;exists⟨o,z,k,m,g,j,E,R,rfl,A,N,S,U,λl v O F D I=>?_⟩;exact q l E v (p.trans O) (none_of p F) A.el A.eo D I
def K2(T:Txt K mg t):1<*t.qA t.qC ["self"] (ib t.jL t.jG):=by
 specialize T.wx.ok K7;let⟨m,f,z,d,e,c,E,g,rfl,A,q⟩:=h;refine⟨_,(jf (jv (JG (pv 0) rfl))),?_⟩;refine jB (S':=[some _]) rfl ?_
 try dsimp only[eF,Cx.lL]
 let⟨a,b⟩:=A.ob;exists⟨m,_,a,_,_,rfl,b,T.j3,T.JR,wR,?_⟩;exact q
def Y7(T:Txt K mg t)(d:4<*t.JE t.JF ["self","beat"] (dO t.jG)):5<*t.qw t.qx ["self"] (fe t.jL t.jG):=by
 specialize T.kz.ok kh;let⟨m,c,z,i,k,f,g,E,l,rfl,A,N,n,o,q⟩:=h;refine⟨_,(jf (jv (kP (JG (pv 0) rfl) T.jU T.za (d.mono nofun) hr T.zx .nil c8 (ja (JG (pv 0) rfl) jd)))),?_⟩;refine jB (S':=[some _]) rfl ?_
 try dsimp only[eF,Cx.lL]
 let⟨a,b⟩:=A.ob;let⟨e,j⟩:=A.sg.ob;exists⟨m,_,a,_,_,rfl,b,T.j3,T.JJ,wS,?_⟩;refine⟨c,e,_,rfl,j,Xk ∅ ∅ ∅ ∅ ∅ ∅,?_⟩;exists⟨m,_,a,_,_,rfl,b,T.j3,T.JR,wR,?_⟩;ac_nf;exact⟨c,z,i,k,f,g,E,l,rfl,A.sg,N,n,o,q⟩
def EG(T:Txt K mg t)(QH:1<*t.zC t.zF ["pieces","sizes","gone"] (dP)):2<*t.Ko t.Kz ["stage","starts","inside","part","gone"] (gG P w t.jG):=by
 specialize T.WV.F.ok yB;let⟨a,l,d,z,ls,o,e,hs,E,st,xs,i,I,rfl,A,N,el,sl,hd,hi,t1,t2,kd,q⟩:=h;refine⟨_,(jb (cj 5 yB.nd (jg jw (JG (pv 0) rfl) (pv 3)))
  (jb (jM (jp j5 (jg jk (pv 5) jc) jD (bH _))
   (jf (jv (jJ (ja (pv 4) (ja (jg jw (pv 1) (JN (Jz hr) (JG (pv 0) rfl) (jg jk (pv 5) jc))) jd)))))
   ju)
  (jb (jM (jp YI (jg jk (pv 5) jc) (jJ (ja jD (ja jD jd))) (by with_unfolding_all rfl))
   (jf (jv (jJ (ja (pv 4) jd))))
   ju)
  (jb (cj 6 yB.nd (jq T.Y1 QH hr (ja (jg jw (JG (pv 0) rfl) (pv 3)) (ja (JG (pv 0) rfl) (ja (pv 4) jd)))))
  (jb (X3 (i:=7) (ow:=["other","begin","over","rest"]) (ci:=[2]) rfl (bM.of (bG ZP) ["stage","starts","inside","part","gone","form","found","pins"] rfl rfl ∅) (CB nofun nofun nofun nofun) yB.nd rfl (.inl rfl) (jY (pv 6)) (λ_ _ _ _ _=>⟨(Ju rfl (jz (cA 0 (jW ["stage","starts","inside","part","gone","form","found","pins"] rfl ∅)) (jz (cA 1 (jW ["stage","starts","inside","part","gone","form","found","pins"] rfl ∅)) (jz (cA 2 (jW ["stage","starts","inside","part","gone","form","found","pins"] rfl ∅)) (jz (cA 3 (jW ["stage","starts","inside","part","gone","form","found","pins"] rfl ∅)) Jc))))),JS,(Hi (P:=P) (w:=w) rfl rfl (Jz hr) (pv 4) (jJ (ja (pv 0) (ja (pv 3) jd))) ⟨rfl,rfl,rfl,rfl⟩)⟩))
  (jb (jM (jp j5 (jg jk (pv 5) jc) jD (bH _))
   (jf (jv (Js qu (by rfl) T.Z3 zD (ja (pv 7) jd))))
   ju)
  (jf (jv (jJ (ja (jy (zr rfl) (by rfl) T.WX Kr (ja (Jj (ow:=["other","begin","over","rest"]) (ci:=[]) rfl (bM.of (bG ZP) ["stage","starts","inside","part","gone","form","found","pins"] rfl rfl ∅) (CB nofun nofun nofun nofun) (jY (pv 6)) (λ_ _ _ _ _=>⟨(Ju rfl (jz (cA 0 (jW ["stage","starts","inside","part","gone","form","found","pins"] rfl ∅)) (jz (cA 1 (jW ["stage","starts","inside","part","gone","form","found","pins"] rfl ∅)) (jz (cA 2 (jW ["stage","starts","inside","part","gone","form","found","pins"] rfl ∅)) (jz (cA 3 (jW ["stage","starts","inside","part","gone","form","found","pins"] rfl ∅)) Jc))))),JS,(pv 2)⟩)) jd)) (ja (jg jw (pv 7) (qG JI jc)) jd))))))))))),?_⟩
 rotate_right 503
 have W:=N.s.w;have ah:=W.mW;let⟨dx,ob⟩:=A.ob;obtain⟨p,m⟩:∃p,o[i]?=some p:=⟨_,vz hi⟩
 let⟨fb,a6,R⟩:=A.fo.get m;have af:=(N.g hi).2;have a0:bZ o e i=dt e p.2 (bY o p.2):=by unfold bZ;rw[m]
 have a9:(o.map λp=>dt e p.2 (bY o p.2))[i]?=some (bZ o e i):=by rw[vv,m,a0];rfl
 let⟨al,a5,bs,a7,hq⟩:=A.pa.get a9;have a3:⇑(bZ o e i)<=8:=by rw[a0];exact Bb (N.i8 m)
 have yl:⇑(cU e I (bZ o e i))<=8:=vW (List.length_filterMap_le _ _) a3;exists⟨a,_,dx,_,_,rfl,ob,T.jU,T.qv,KB,?_⟩;exists bU (bK.of A.ho) (jK (j:=i) (by rw[vv,a6];rfl)) ?_;exists vk (C:=∃(f:Str) (tl:N2),H fb=some (.tup (.str f::tl))/\(f = "row"\/f = "side"\/f = "again")/\((f = "side"/\cp ls o e st i I = .tuple ((cU e I (bZ o e i)).map (dg (cp ls o e st))))\/(¬f = "side"/\cU e I (bZ o e i)≠[]/\cp ls o e st i I=iJ (cU e I (bZ o e i)) (cp ls o e st)))) (λhg=>?_) (λM=>?_)
 .let⟨f,tl,r,u,hD⟩:=hg;have nr:¬f = "raise":=by rcases u with h | h | h<;>(rw[h];decide +kernel)
  have nh:¬f = "hold":=by rcases u with h | h | h<;>(rw[h];decide +kernel)
  have ng:¬f = "ring":=by rcases u with h | h | h<;>(rw[h];decide +kernel)
  refine cD (bV.of r) (dZ) ?_;exists dW (vH nr) ?_;exists cD (bV.of r) (dZ) ?_;exists⟨ud,?_⟩;walk_at"f 1 e";refine⟨p1,_,rfl,.inr (bV.of e1),rfl,rfl,_,rfl,?_⟩;refine dW (by rcases u with h | h | h<;>(subst h;decide +kernel)) ?_;exists⟨a,_,dx,_,_,rfl,s1 _ _ ob,T.jU,T.qF,wT,?_⟩;exists bU (bK.of (s1 _ _ A.hp)) (Z1 (i:=(i:Int)) ⋯ a5) ?_;exists⟨a,_,dx,_,_,rfl,s1 _ _ ob,T.jU,T.Jd,zt,?_⟩;exists⟨al,z.s,I,bs,bZ o e i,e,rfl,s1 _ _ a7,bL.mono hq λc y h=>s1 _ _ h,s1 _ _ A.hs,a3,λq hq=>N.mP hq,t1,⋯,λlp U H2 s2 ag ep D=>?_⟩;have F:=s1.trans s2;have S:=D.1;have a1:gU P w H2 d xs:=⟨F _ _ hd.1,λp m=>F _ _ (hd.2 p m)⟩
  generalize eY:cU e I (bZ o e i)=Y at hD D S yl kd;exists⟨lp,rfl,⟨_,bK.of ep⟩,?_⟩;refine JC (xs:=U.map V.ref) (λk J B=>bI H2 B/\gN B J ((Y.take k).map (dg (cp ls o e st)))) ⟨bI.refl _,.nil⟩ ?_ ?_ ?_
  .rintro k J B _ ⟨Z,_⟩;exact bK.of (Z _ _ ep)
  .rintro k v J B hv ⟨Z,L⟩;let⟨c,y,rfl,hy,hc⟩:=D.cz hv;have hk:=(vx.mp hy).1;have ae:=wP L;rw[vt,vi]at ae;refine Jq (S':=[none,none,none,none,↥d]) rfl ?_;refine Af (bV.of (Z _ _ hc)) ?_;exists dq ?_;exists Cc ?_;ac_nf;have O:gU P w B d xs:=⟨Z _ _ a1.1,λp m=>Z _ _ (a1.2 p m)⟩
   refine⟨d,xs,rfl,O,?_⟩;exists⟨ud,?_⟩;walk_at"f 3 e";refine⟨p3,[some (y.1:Int),y.2.2.2],xs,rfl,⟨s3 _ _ O.1,λp m=>s3 _ _ (O.2 p m)⟩,?_,?_⟩
   .show H3 p3=_;rw[e3];cases y.2.2.2<;>rfl
   refine⟨⋯,Z.trans s3,?_⟩;rw[take_snoc hy,vj];exact BH (L.mono s3) (((kd y (vm hy)).mono F).mono (Z.trans s3))
  rintro J H3 ⟨s3,L⟩;rw[vt,S,v5]at L;have a4:=wP L;rw[vt]at a4;refine⟨⋯,?_⟩;walk_at"f lq hlq H4 s4 e4";have G:=s3.trans s4;have X:=F.trans G;exists cD (bV.of (X _ _ r)) (dZ) ?_;ac_nf;rcases hD with⟨ht,hD⟩ | ⟨ht,yn,hD⟩
  .refine lA (vG ht) ?_;exists⟨lq,_,rfl,.inl ⟨bK.of e4,?_⟩⟩;walk_at"f 5 e";refine q (.ref p5) H5 (X.trans s5) ?_;rw[hD];exact .tup e5 ((L.mono s4).mono s5)
  .refine dW (vH ht) ?_;exists⟨lp,rfl,⟨_,bK.of (G _ _ ep)⟩,?_⟩;refine JC (xs:=U.map V.ref) (λk J B=>J=((Y.take k).map λy=>y.2.2.1).map V.int/\H4=B) ⟨rfl,rfl⟩ ?_ ?_ ?_
   .rintro k J B _ ⟨rfl,rfl⟩;exact bK.of (G _ _ ep)
   .rintro k v J B hv ⟨rfl,rfl⟩;let⟨c,y,rfl,hy,hc⟩:=D.cz hv;have hk:=(vx.mp hy).1;refine Jq (S':=[none,none,none,none]) rfl ?_;refine Af (bV.of (G _ _ hc)) ?_;exists dq ?_;exists⟨by rw[vt,vt,vi];lia,?_,rfl⟩;rw[take_snoc hy,vj,vj];rfl
   rintro zs B ⟨rfl,rfl⟩;rw[show(U.map V.ref).length=⇑Y from(vt _).trans S,v5];refine⟨by rw[vt,vt];lia,?_⟩;walk_at"f 5 e";refine⟨p5,_,rfl,bK.of e5,?_⟩;have ad:Y.map (dg (cp ls o e st))≠[]:=λz=>yn (List.map_eq_nil_iff.mp z)
   let⟨x,ab,ac⟩:=Gn (d:=PyData.none) ad;let⟨v,a2,aa⟩:=Xh L ac;rw[vt]at a2;have y1:1<=⇑Y:=length_pos_iff.mpr yn;exists bU (bK.of (s5 _ _ e4)) (Ap (n:=⇑Y) y1 a4 a2) ?_;exists⟨ud,?_⟩;walk_at"f 6 e";refine q (.ref p6) H6 (X.trans (s5.trans s6)) ?_;rw[hD];unfold iJ;rw[ab];exact .tup e6 (.cons (.int _) (.cons (((aa.mono s4).mono s5).mono s6) .nil))
 .let⟨nm,fm⟩:=p;dsimp only at R;cases fm with
  | rise x v n=>
   have r:H fb=some (.tup [.str "raise",.str x,.int v,.int n]):=R;let⟨j,hj⟩:=W.r i nm x v n m;have a8:=(vx.mp hj).1;rw[bF,vt]at a8;have g:=cM.k (k:=Sum.inr x) A.hd;rw[Yd W.ln hj]at g;refine bO r ?_;exists cF ?_;exists⟨a,_,dx,_,_,rfl,ob,T.jU,T.qY,xa,?_⟩;exists bO r ?_;refine⟨z.d,_,rfl,g,?_⟩;refine bU (bK.of el) (jK (j:=j) (by rw[vv,vz ⋯];rfl)) ?_;exists⟨ud,?_⟩;walk_at"f 1 e";refine q (.ref p1) H1 s1 ?_;rw[ZL m,j2 W.ln hj,vy,vz ⋯];exact .tup e1 (.cons (.int _) (.cons (.int _) .nil))
  | hold n=>
   have r:H fb=some (.tup [.str "hold",.int n]):=R;refine bO r ?_;exists bQ ?_;exists bO r ?_;exists⟨ud,?_⟩;walk_at"f 1 e";refine⟨p1,_,rfl,.inr (bV.of e1),rfl,rfl,_,rfl,?_⟩;refine cF ?_;exists⟨ue,?_⟩;walk_at"f 2 e";refine q (.ref p2) H2 (s1.trans s2) ?_;rw[ZJ m];exact .tup e2 (.cons (.int _) .nil)
  | ring x n=>
   have r:H fb=some (.tup [.str "ring",.str x,.int n]):=R;refine bO r ?_;exists bQ ?_;exists bO r ?_;exists⟨ud,?_⟩;walk_at"f 1 e";refine⟨p1,_,rfl,.inr (bV.of e1),rfl,rfl,_,rfl,?_⟩;refine cF ?_;exists⟨ue,?_⟩;walk_at"f 2 e";refine q (.ref p2) H2 (s1.trans s2) ?_;rw[ZK m];exact .tup e2 (.cons (.int _) .nil)
  | row xs2=>
   let⟨b,r,h2⟩:=R;exact M ⟨_,_,r,.inl rfl,.inr ⟨by trivial,DK N m t1 (.inl ⟨_,rfl⟩),kR W m⟩⟩
  | side xs2=>
   let⟨b,r,h2⟩:=R;exact M ⟨_,_,r,.inr (.inl rfl),.inl ⟨rfl,Yf W m⟩⟩
  | again k x=>
   have r:H fb=some (.tup [.str "again",.int k,.str x]):=R;exact M ⟨_,_,r,.inr (.inr rfl),.inr ⟨by trivial,DK N m t1 (.inr ⟨_,_,rfl⟩),ZI W m⟩⟩
def EF(T:Txt K mg t)(qt:3<*t.qU t.qV ["self","beat"] (fv t.jG))(Kj:2<*t.Ko t.Kz ["stage","starts","inside","part","gone"] (gG P w t.jG)):4<*t.Kn t.Ky ["stage","beat"] (gE t.jG):=by
 specialize T.WU.F.ok zT;let⟨a,z,S,f,o,hs,E,I,rfl,A,N,t1,t2,q⟩:=h;refine⟨_,(jb (cj 2 zT.nd (kP (pv 0) T.jU T.Yb (qt.mono nofun) hr T.YT .nil c8 (ja (pv 1) jd)))
  (jb (cj 3 zT.nd Hh)
  (jb (j7 PassesOwn.never rfl (jY (DI (jg jk (pv 2) jc) (QU (qG JI jc)))) (Ju rfl (jz (cA 4 zT.nd) (jz (cA 5 zT.nd) Jc)))
   (jf (Yg (jq T.WV Kj hr (ja (pv 0) (ja (jg jk (pv 2) jc) (ja (pv 3) (ja (pv 4) (ja (pv 5) jd)))))) (ka (pv 3) (jJ (ja (pv 4) (ja (pv 5) jd))) (LM (Jz hr))))))
  (jf (jv (B8 (Jz hr) (pv 3) (jJ (ja (jr JZ (jy jI (by rfl) T.Jl jZ (ja (JG (pv 0) rfl) jd)) jc) (ja (pv 1) jd))) ⟨rfl,rfl,rfl,rfl⟩)))))),?_⟩
 rotate_right 204
 have W:=N.s.w;have ne:=N.ne;let⟨dx,ob⟩:=A.ob;exists⟨a,dx,_,rfl,ob,Xk ∅ ∅ ∅ ∅ ∅ ∅,?_⟩;exists⟨a,z,S,f,o,hs,E,I,rfl,A,N,t1,t2,λr l1 l2 as l H1 s1 a7 a8 er h1 ll hb h2 a9 gP pl bP hP eP=>?_⟩;ac_nf;dsimp only[eF,Cx.lL];intro d U;have M:bI H1 (upd H1 d (m3 P w d [])):=wu U rfl;have ed:gU P w (upd H1 d (m3 P w d [])) d []:=⟨jA,λp L=>nomatch L⟩
 have a2:d≠l1:=λz=>by rw[z,h1]at U;cases U
 generalize a1:upd H1 d (m3 P w d [])=H2 at M ed|-;clear a1;have a6:=s1.trans M;have al:=gP.1;exists bO (M _ _ er) ?_;exists⟨rfl,l2,_,rfl,bK.of (M _ _ h2),?_⟩;walk_at"f lr hlr H3 s3 e3";have Z:=a6.trans s3;have a5:lr≠d:=λz=>by rw[z,ed.1]at hlr;cases hlr
 rw[<-map_reverse]at e3;refine⟨lr,rfl,⟨_,bK.of e3⟩,?_⟩;have gR:eM H3 as.reverse l.reverse:=bL.mono (bL.rev gP) λc y h=>s3 _ _ (M _ _ h)
 refine Jw (xs:=as.reverse.map V.ref) (λk σ j=>fZ λ(o4 o5:N3) (xs:List OE)=>i7 (σ=[↥a,~~~I,↥r,↥d,o4,o5]) (∀c u,c≠d->H3 c=some u->j c=some u) (gU P w j d xs) (⇑xs<=k) ((∀x∈l.reverse.take k,DV j (gY xs [some (x.1:Int),some x.2]) (cp S f o (eI S f o E I) x.1 x.2))) ((∀(y:KO),gY xs [y,none] = .cE)/\(k=0->xs=[])))
  ⟨_,_,[],rfl,λc u _ h=>h,⟨s3 _ _ ed.1,λp L=>nomatch L⟩,vb _,(λx B=>nomatch B),λy=>rfl,λ_=>rfl⟩ ?_ ?_ ?_
 .rintro k σ j _ ⟨o4,o5,xs,rfl,G,_⟩;exact bK.of (G _ _ a5 e3)
 .rintro k v σ j hv ⟨o4,o5,xs,rfl,G,B,xl,m,J,_⟩;let⟨c,x,rfl,g,hc⟩:=gR.cz hv;have hk:=(vx.mp g).1;rw[length_reverse]at hk;let⟨x1,x2,x3⟩:=bP x (mem_reverse.mp (vm g));have kd:∀{c:Addr} {u:HO},H c=some u->j c=some u:=λ{c u} h=>G _ _ (λz=>by rw[z]at h;exact uf (s1 _ _ h) (by rw[U];simp)) (Z _ _ h)
  have sH:bI H j:=λc u h=>kd h
  have nt:∀{c:Addr} {O:N2},H3 c=some (.tup O)->j c=some (.tup O):=λ{c O} h=>G _ _ (λz=>by rw[z,s3 _ _ ed.1]at h;cases h) h
  have X:KidsP j xs (cp S f o (eI S f o E I)) (cU o x.2 (bZ f o x.1)):=λy hy=>by
   unfold dg;cases hr:y.2.2.2 with
   | none=>rw[J];exact .cE
   | some r0=>
    let⟨e1,R⟩:=vx.mp g;have a0:lV f o (⇑f-1) I=l.take (⇑l-1-k)++x::(l.reverse.take k).reverse:=by
     rw[<-eP,List.take_reverse,List.reverse_reverse];have a3:l[⇑l-1-k]?=some x:=by
      rw[List.getElem?_reverse ⋯]at g;exact g
     have:=List.take_append_drop (⇑l-1-k) l;rw[List.drop_eq_getElem_cons ⋯,(vx.mp a3).2,show ⇑l-1-k+1=⇑l-k by lia]at this;exact this.symm
    exact m _ (mem_reverse.mp (HQ N a0 y hy r0 hr))
  refine J0 (bV.of (nt hc)) ?_;exists bO (nt (s3 _ _ (M _ _ er))) ?_;exists⟨a,l1,d,z,S,f,o,hs,E,_,xs,x.1,x.2,rfl,A.same sH,N,G _ _ (Ne.symm a2) (s3 _ _ (M _ _ h1)),ll,B,x1,x2,x3,X,λv H4 s4 dv=>?_⟩;exists⟨ud,?_⟩;walk_at"f kt hkt H5 s5 e5";have F:=s4.trans s5;have C:gU P w H5 d xs:=⟨F _ _ B.1,λp L=>F _ _ (B.2 p L)⟩
  refine⟨d,kt,[some (x.1:Int),some x.2],xs,rfl,rfl,C,e5,⋯,?_⟩;dsimp only[eF,Cx.lL];have aa:=Bo (xs:=xs) (k:=[some (x.1:Int),some x.2]) (b:=kt) (v:=v);have a4:∀c O,H5 c=some (.tup O)->upd H5 d (m3 P w d (hY xs [some (x.1:Int),some x.2] kt v)) c=some (.tup O):=λc O h=>(jh (λz=>by rw[z,C.1]at h;cases h)).trans h
  have Y:∀{v':V} {D:PyData},DV H5 v' D->DV (upd H5 d (m3 P w d (hY xs [some (x.1:Int),some x.2] kt v))) v' D:=λh=>h.mH (by rw[C.1];exact⟨(λ_ z=>nomatch z),(λ_ z=>nomatch z)⟩)
  refine⟨_,_,_,rfl,λc u n h=>(jh n).trans (F _ _ (G _ _ n h)),⟨jA,Ho C.2 e5 a4⟩,⋯,λy hy=>?_,λy=>?_,λz=>⋯⟩
  .rw[BJ];rw[take_snoc g]at hy;split
   .rename_i e;injection e with e1 R;injection R with R _;have e1:(y.1:Int)=x.1:=vL e1;have R:y.2=x.2:=vL R;rw[R,show y.1=x.1 by lia];exact Y (dv.mono s5)
   .rename_i ne';rcases vh.mp hy with h | h
    .exact Y ((m y h).mono F)
    .rw[vo.mp h]at ne';exact uf rfl ne'
  .rw[BJ,vc (λz=>nomatch z)];exact J y
 rintro σ j ⟨o4,o5,xs,rfl,G,B,xl,m,J,hz⟩;have kd:∀{c:Addr} {u:HO},H c=some u->j c=some u:=λ{c u} h=>G _ _ (λz=>by rw[z]at h;exact uf (s1 _ _ h) (by rw[U];simp)) (Z _ _ h)
 have sH:bI H j:=λc u h=>kd h
 have fl:=A.fo.1;rw[vt,length_reverse,al,take_of_length_le (by rw[length_reverse];lia)]at m;rw[vt,length_reverse,al]at hz xl;exists Cc ?_;exists⟨d,xs,rfl,B,?_⟩;exists⟨a,_,dx,_,_,rfl,sH _ _ ob,T.jU,T.qv,KB,?_⟩;exists⟨_,_,rfl,.inl ⟨_,bK.of (sH _ _ A.ho),rfl⟩,?_⟩;rw[vt,fl];exists⟨ud,?_⟩;walk_at"f 7 e";refine⟨p7,[some ((⇑f-1:Nat):Int),some I],xs,rfl,⟨s7 _ _ B.1,λp L=>s7 _ _ (B.2 p L)⟩,?_,?_⟩
 .rw[show((⇑f:Nat):Int)-1=((⇑f-1:Nat):Int) by lia]at e7;exact e7
 refine q _ H7 (sH.trans s7) ?_;unfold iZ;by_cases c:o.getD (⇑f-1) 0<=I
 .rw[vd c];rw[Wh c]at eP;rw[hz (by rw[eP];rfl)];exact .cE
 .rw[vc c];refine(m (⇑f-1,I) (mem_reverse.mpr ?_)).mono s7;rw[eP,X0 W c];exact vq
def K5(T:Txt K mg t)(c:4<*t.Kn t.Ky ["stage","beat"] (gE t.jG)):5<*t.Qr t.Qv ["self"] (iw t.jL t.jG):=by
 specialize T.wz.ok wa;let⟨m,i,z,f,g,d,e,E,j,rfl,A,N,k,l,q⟩:=h;refine⟨_,(jf (jv (jq T.WU c hr (ja (JG (pv 0) rfl) (ja (JG (pv 0) rfl) jd))))),?_⟩;refine jB (S':=[some _]) rfl ?_
 try dsimp only[eF,Cx.lL]
 let⟨a,b⟩:=A.ob;exists⟨m,_,a,_,_,rfl,b,T.j3,T.JJ,wS,?_⟩;exists⟨m,_,a,_,_,rfl,b,T.j3,T.JR,wR,?_⟩;ac_nf;exact⟨i,z,f,g,d,e,E,j,rfl,A.sg,N,k,l,q⟩
def WK(T:Txt K mg t):1<*t.qf t.qm ["_law_found"] (dD):=by
 specialize T.qc.F.ok WO;let⟨v,b,rfl,z,q⟩:=h;refine⟨_,(jf (jv (Lc (jy wG (by rfl) T.Z2 Zs (ja (pv 0) (ja (XV (v:=.ty "int") (by rfl) T.DN De rfl) jd))) (Le (Ld (jy wG (by rfl) T.Z2 Zs (ja (pv 0) (ja (XV (v:=.ty "bool") (by rfl) T.Lv Ii rfl) jd)))))))),?_⟩;refine jB (S':=[some _]) rfl ?_
 try dsimp only[eF,Cx.lL]
 rcases z with⟨i,rfl,rfl⟩ | ⟨a,c,rfl,h,rfl⟩
 .exists⟨_,_,_,_,rfl,.int i,FT,?_⟩;exists dq ?_;exists⟨_,_,_,_,rfl,.int i,ES,?_⟩;ac_nf;exact q
 .exists⟨_,_,_,_,rfl,.tup h,En,?_⟩;exists dW rfl ?_;exact q
def XG(T:Txt K mg t)(jX:1<*t.qf t.qm ["_law_found"] (dD)):2<*t.zZ t.Zf ["_law_form_here","_law_pins","_law_heights","_law_climbs"] (fU):=by
 specialize T.zW.F.ok X9;let⟨bx,l,f,gl,hl,M,a,a1,a0,ls,ks,O,hs,ht,S,C,k,i,J,v,d,rfl,I,Cl,hd,G,g,h0,h1,F,lf,k6,q⟩:=h;refine⟨_,(jb (jM (PW.pt (YW (yp (ke (jq T.qc jX hr (ja (jg jk (pv 1) jc) jd)))) (YW (jp Zj (jg jk (pv 1) jc) jc (bH _)) (Yj (jp sE (jg jk (pv 1) jc) (jg jk (pv 0) (jr JZ (jy jI (by rfl) T.Jl jZ (ja (pv 0) jd)) jc)) (bH _))))))
   (jf (jv (qG JI jc)))
   ju)
  (jb (jM (jp yF (jg jk (pv 0) jc) jD (bH _))
   (jf (jv (jg jw (jN (ja (qG JI jc) (ja (jg jk (pv 1) jc) jd))) (Js FD (by rfl) T.DN De (ja (B7 j5 (jy jI (by rfl) T.Jl jZ (ja (pv 1) jd)) jc (bH _)) jd)))))
   ju)
  (jb (jM (PW.pt (YW (jp yF (jy jI (by rfl) T.Jl jZ (ja (pv 1) jd)) jc (bH _)) (Yj (yp (ke (jq T.qc jX hr (ja (jg jk (pv 1) jc) jd)))))))
   (jf (jv (qG JI jc)))
   ju)
  (jb (jM (jp yF (jg jw (pv 2) (jg jk (pv 0) jc)) (jr jQ (jg jk (pv 1) jc) (jr Jf (jr qq (jr JZ (jg jk (pv 0) jc) (jg jk (pv 1) jc)) (jg jk (pv 1) jc)) (jg jk (pv 0) jc))) (bH _))
   (jf (jv (qG JI jc)))
   ju)
  (jb (jR (Jy q3 q4 q5 jH (pv 3) (ja (jJ (ja (jg jk (pv 0) jc) (ja (jg jk (pv 1) jc) (ja (jg jk (pv 1) jc) jd)))) jd)))
  (jf (jv (jg jk (pv 1) jc)))))))),?_⟩
 rotate_right 400
 have N:=I.N;have W:=N.s.w;have r:=yV (ls:=ls) hd;have Y:bZ (cK ls ks) O i=[]:=by
  unfold bZ;rw[r];cases d with
  | hold n=>rfl
  | ring x n=>rfl
  | rise x h n=>rfl
  | row js=>exact uf rfl (g.1 js)
  | side js=>exact uf rfl (g.2.1 js)
  | again k j=>exact uf rfl (g.2.2 k j)
 let⟨o,cs,D,Z,c3,c4⟩:=Cl;have X:=N.s.ln i _ r;have U:(∃(m:Str) (B:N2),H a=some (.tup (.str m::B))/\m≠"raise"/\⇑B<=3/\(V.str m::B)[⇑B]?=some (.int (O.getD i 0))/\cp ls (cK ls ks) O S i J = .tuple [.int J])\/∃x h n,d = .rise x h n:=by
  cases d with
  | hold n=>exact .inl ⟨"hold",_,G,by trivial,by show 1<=3;decide,by rw[<-X.2 n rfl];rfl,ZJ r⟩
  | ring x n=>exact .inl ⟨"ring",_,G,by trivial,by show 2<=3;decide,by rw[<-X.2 n rfl];rfl,ZK r⟩
  | rise x h n=>exact .inr ⟨_,_,_,rfl⟩
  | row js=>exact uf rfl (g.1 js)
  | side js=>exact uf rfl (g.2.1 js)
  | again k j=>exact uf rfl (g.2.2 k j)
 rcases U with⟨m,B,L,tg,v3,vl,pe⟩ | ⟨x,h,n,rfl⟩
 .rw[pe]at F;let⟨p,rfl,b⟩:=F.one;exists bO b ?_;exists⟨_,_,rfl,.inl ⟨_,rfl,rfl⟩,?_⟩;exists fH ?_;exists bO b ?_;exists bT (λc=>uf c ⋯) (λ_=>?_);exists bO b ?_;exists⟨_,_,rfl,.inr ⟨_,bV.of L,rfl⟩,?_⟩;exists cD (bV.of L) (by rw[show((⇑(V.str m::B):Nat):Int)-1=((⇑B:Nat):Int) by rw[vQ];lia];exact jK vl) ?_;exists bT (λc=>uf c ⋯) (λ_=>?_);exists cD (bV.of L) (dZ) ?_;exists dI (λ_=>?_) (λc=>uf c tg);exists bO b ?_;exists⟨ud,?_⟩;sleep 2;exists⟨_,_,rfl,.inr ⟨_,bV.of (s2 _ _ b),rfl⟩,?_⟩;exists .inr ⟨_,rfl,?_⟩;refine bU (bK.of t2) rfl ?_;exact q H2 (λc u _ h=>s2 _ _ h) ⟨o,cs,s2 _ _ D,bL.mono Z λa c e=>s2 _ _ e,c3,⋯⟩
 .have kl:=I.x.lm _ (vm hd) x h n rfl;have gk:(bF ls)[x]?=some ((bF ls).getD x ⟨#[]⟩):=by
   rw[vy,vz (by unfold bF;rw[vt];exact kl)];rfl
  let⟨lc,lb,lh⟩:=lf i J _ _ _ _ (by rw[CH Y];exact vo.mpr rfl) h1 r;have hn:=I.hn;have rr:=N.sU i _ _ _ _ r;have gi:=(N.g (i:=i) (by have:=(vx.mp r).1;exact this)).2;rw[ZL r]at F;rw[j2 W.ln gk]at F lc lb lh;have ge:=X.2 n rfl;generalize S.getD x 0=sv at *;let⟨p,y,rfl,b,dy⟩:=F.two;obtain rfl:=dy.int;exists bO b ?_;exists⟨_,_,rfl,.inl ⟨_,rfl,rfl⟩,?_⟩;exists fH ?_;exists bO b ?_;exists bT (λc=>uf c ⋯) (λ_=>?_);exists bO b ?_;exists⟨_,_,rfl,.inr ⟨_,bV.of G,rfl⟩,?_⟩;exists bO G ?_;exists bT (λc=>uf c ⋯) (λ_=>?_);exists cD (bV.of G) (dZ) ?_;exists dI (λc=>uf rfl c) (λ_=>?_);exists⟨_,_,rfl,.inr ⟨_,bV.of b,rfl⟩,?_⟩;exists dI (λc=>uf rfl c) (λ_=>?_);exists bO b ?_;exists⟨_,_,rfl,.inl ⟨_,rfl,rfl⟩,?_⟩;exists fH ?_;exists bO G ?_;exists bU (bK.of I.h) (jK (j:=x) (v:=.int (ht.getD x 0)) (by rw[vv,vy,vz ⋯];rfl)) ?_;exists bO b ?_;exists bO G ?_;exists bO b ?_;exists bO b ?_;exists bO G ?_;exists dI (λc=>uf lh c) (λ_=>?_);exists⟨.inl ⟨rfl,_,bK.of D⟩,?_⟩;exists bO G ?_;exists bO b ?_;exists bO b ?_;exists⟨uc,?_⟩;sleep 3;exists⟨M,_,_,rfl,rfl,s3 _ _ D,by rw[vt];lia,?_⟩;have pc:p≠M:=Je b D (λe=>by cases e);have R:∀{c:Addr} {xs:N2},H3 c=some (.tup xs)->(upd H3 M (.lst (o.map V.ref++[.ref p3]))) c=some (.tup xs):=λh=>(jh (Je h (s3 _ _ D) (λe=>by cases e))).trans h
  exists bO (R (s3 _ _ b)) ?_;refine q _ (λc u ne h=>(jh ne).trans (s3 _ _ h)) ⟨o++[p3],cs++[(x,sv,J)],by rw[jA,vj];rfl,(bL.mono Z λa c e=>R (s3 _ _ e)).snoc (R t3),λc hc=>?_,by rw[vn];show ⇑o+1<=_;lia⟩;rcases vh.mp hc with z | z
  .exact c3 c z
  .rw[vo.mp z];exact lc
def XI{rd rl:Nat}(T:Txt K mg t)(a8:2<=rl)(qy:rl<*t.J3 t.qb ["_law_box","_law_longs_here","_law_number","_law_pins","_law_heights","_law_climbs"] (dn rd)):(rl+1)<*t.yT t.y6 ["_law_box","_law_longs_here","_law_inners","_law_pins","_law_heights","_law_climbs"] (iz rd):=by
 specialize T.zX.F.ok JP;let⟨bx,l,f,gl,hl,Z,b,a6,a5,ls,ks,G,hs,ht,S,C,k,i,B,v,o,rfl,A',Cl,eb,hd,a9,h0,h1,dv,lf,k6,q⟩:=h;refine⟨_,(jb (jM (jp yF (jy jI (by rfl) T.Jl jZ (ja (pv 3) jd)) (jy jI (by rfl) T.Jl jZ (ja (pv 2) jd)) (bH _))
   (jf (jv (qG JI jc)))
   ju)
  (jb (cj 6 JP.nd (qG JI jc))
  (jb (j7 PassesOwn.never rfl (kQ true (by rfl) T.sF (ja (pv 2) (ja (pv 3) jd))) (Ju rfl (jz (cA 7 JP.nd) (jz (cA 8 JP.nd) Jc)))
   (jf (jM (jp B6 (pv 8) Wf (bH _))
    (jb (cj 9 JP.nd (YJ qy hr (by rfl) T.JK.m T.JK.F.kp T.JK.B .nil c8 (ja (pv 0) (ja (pv 1) (ja (pv 7) (ja (pv 8) (ja (pv 4) (ja (pv 5) jd))))))))
    (jb (jM (PW.pt (YW (jp Zj (pv 9) jc (bH _)) (Yj (PW.pt (Qc (jp sE (pv 6) jc (bH _)) (qQ (jp yF (pv 9) (pv 6) (bH _))))))))
     (jf (jv (qG JI jc)))
     ju)
    (jf (cj 6 JP.nd (pv 9)))))
    ju)))
  (jb (j7 PassesOwn.never rfl (kQ true (by rfl) T.sF (ja (pv 2) (ja (pv 3) jd))) (Ju rfl (jz (cA 7 JP.nd) (jz (cA 8 JP.nd) Jc)))
   (jf (jM (PW.pt (Qc (jp DF (pv 8) Wf (bH _)) (qQ (jp yE (jg jw (pv 1) (pv 7)) (pv 6) (bH _)))))
    (jf (jv (qG JI jc)))
    ju)))
  (jf (jv (pv 6))))))),?_⟩
 rotate_right 604
 have N:=A'.N;have W:=N.s.w;have hp:=yV (ls:=ls) hd;have ik:=(vx.mp hd).1;have lt:∀j∈o,j<i:=λj n=>A'.x.dw.lt i _ hd j n
 have ip:bY (cK ls ks) (.side (o.map fD))=o:=Xm W (d:=.side o) λj n=>by have:=lt j n;lia
 let⟨a4,a3,jx,jm,jn⟩:=IL N hp h0 h1;rw[ip]at a4 a3 jm;rw[xA N hp h0,ip]at dv;let⟨p,xs,rfl,ep,xl⟩:=dv.tup;rw[vt]at xl;have a2:∀(m j:Nat) (x:V),o[m]?=some j->xs[m]?=some x->g8 H x (if G.getD j 0<=B then .none else cp ls (cK ls ks) G S j B):=λm j x n hx=>dv.rh ep hx (by rw[vv,n];rfl)
 rw[a3]at k6 q;generalize hg:(λj=>if G.getD j 0<=B then 1 else(reach (cK ls ks) G j B).length)=g at k6 q;let⟨a7,cs,c1,c2⟩:=id Cl;have kt:∀{F:Hp},(∀c u,c≠Z->H c=some u->F c=some u)->∀a ys,H a=some (.tup ys)->F a=some (.tup ys):=λr a ys e=>r _ _ (Je e c1 (λe=>by cases e)) e
 have sg:∀u,((o.take u).map g).sum<=(o.map g).sum:=G4 g o;exists⟨_,_,rfl,.inr ⟨_,bV.of ep,rfl⟩,?_⟩;exists⟨_,_,rfl,.inr ⟨_,bV.of eb,rfl⟩,?_⟩;exists dI (λc=>uf (by rw[vt];lia) c) (λ_=>?_);exists⟨b,p,_,_,rfl,bV.of eb,bV.of ep,?_⟩;refine wV (xs:=o.map vN) (ys:=xs) (λu X F=>i9 λ(J:Int) (O R U:N3)=>i6 (X=[↥bx,↥gl,↥b,↥p,↥hl,↥Z,~~~J,O,R,U]) (((J = -1/\∀j∈o.take u,G.getD j 0<=B)\/J=B)) ((∀c u,c≠Z->H c=some u->F c=some u)/\g7 F Z C (k+((o.take u).map g).sum)))
  (by rw[vt];lia) ⟨-1,_,_,_,rfl,.inl ⟨rfl,λj n=>nomatch n⟩,λ_ _ _ h=>h,Cl⟩ ?_ ?_ ?_
 .rintro u X F _ ⟨J,O,R,U,rfl,hw,r,Y⟩;exact⟨bV.of (kt r _ _ eb),bV.of (kt r _ _ ep)⟩
 .rintro u x y X F T H1 hx hy ⟨J,O,R,U,rfl,hw,r,Y⟩ s1 hT;rw[vv]at hx;let⟨j,n,rfl⟩:=vg.mp hx;have M:=vm n;have jl:=lt j M;have L:=a2 u j y n hy;have tk:=take_snoc n;have sn:((o.take (u+1)).map g).sum=((o.take u).map g).sum+g j:=by rw[tk,vj,sum_append];show _+(g j+0)=_;lia
  have su:=sg (u+1);have gj:g j=if G.getD j 0<=B then 1 else(reach (cK ls ks) G j B).length:=by rw[<-hg]
  refine J0 (bV.of hT) ?_;exists⟨rfl,?_⟩;ac_nf;by_cases c:G.getD j 0<=B
  .rw[vd c]at L gj;obtain rfl:=L.cE;refine dI (λz=>uf rfl z) (λ_=>?_);exists⟨J,_,_,_,rfl,hw.imp (λ⟨a,b⟩=>⟨a,λj' a1=>?_⟩) id,λc u I h=>s1 _ _ (r c u I h),(Y.same s1).le ⋯⟩;rw[tk]at a1;rcases vh.mp a1 with z | z
   .exact b j' z
   .rw[vo.mp z];exact c
  .rw[vc c]at L gj;let⟨ds,e⟩:=B9 N (show j<⇑(cK ls ks) by rw[Jr];lia) (t:=B) (S:=S);have a0:=L;rw[e]at a0;let⟨p5,ys,rfl,e5,_⟩:=a0.tup;refine dI (λ_=>?_) (λz=>nomatch z);have k1:∀c u,c≠Z->H c=some u->H1 c=some u:=λc u I h=>s1 _ _ (r c u I h)
   exists⟨bx,l,f,gl,hl,Z,a6,a5,ls,ks,G,hs,ht,S,C,_,j,B,_,rfl,A'.but c1 k1,Y.same s1,⋯,⋯,h0,⋯,L.keep (kt k1),lf.rh (a4 j M c),⋯,λH2 k2 D=>?_⟩;exists bT (λz=>uf z ⋯) (λ_=>?_);ac_nf;rcases hw with⟨rfl,_⟩ | rfl
   .refine bT (λz=>uf z nofun) (λ_=>?_);refine fH ?_;ac_nf;exact⟨B,_,_,_,rfl,.inr rfl,λc u I h=>k2 _ _ I (k1 c u I h),D.le ⋯⟩
   .refine bT (λ_=>?_) (λz=>uf h0 z);exists dI (λz=>uf rfl z) (λ_=>?_);ac_nf;exact⟨_,_,_,_,rfl,.inr rfl,λc u I h=>k2 _ _ I (k1 c u I h),D.le ⋯⟩
 rintro X H2 ⟨J,O,R,U,rfl,hw,r,D⟩;rw[vt,v5]at hw D;obtain rfl:J=B:=hw.elim (λz=>uf (z.2 jx jm) jn) id;have A2:=A'.but c1 r;exists⟨b,p,_,_,rfl,bV.of (kt r _ _ eb),bV.of (kt r _ _ ep),?_⟩;refine wV (xs:=o.map vN) (ys:=xs) (λu X F=>fZ λ(O R U:N3)=>X=[↥bx,↥gl,↥b,↥p,↥hl,↥Z,~~~J,O,R,U]/\bI H2 F)
  (by rw[vt];lia) ⟨_,_,_,rfl,λ_ _ h=>h⟩ ?_ ?_ ?_
 .rintro u X F _ ⟨O,R,U,rfl,s2⟩;exact⟨bV.of (s2 _ _ (kt r _ _ eb)),bV.of (s2 _ _ (kt r _ _ ep))⟩
 .rintro u x y X F T H1 hx hy ⟨O,R,U,rfl,s2⟩ s1 hT;rw[vv]at hx;let⟨j,n,rfl⟩:=vg.mp hx;have M:=vm n;have jl:=lt j M;have L:=a2 u j y n hy;have s3:=s2.trans s1;refine J0 (bV.of hT) ?_;exists⟨rfl,?_⟩;ac_nf;by_cases c:G.getD j 0<=J
  .refine bT (λ_=>?_) (λ_=>?_)
   .exists bU (bK.of (s3 _ _ A2.g)) (jK (v:=.int (G.getD j 0)) (by rw[vv,N.xc (by rw[Jr];lia)];rfl)) ?_;exists bT (λz=>uf z ⋯) (λ_=>?_);ac_nf;exact⟨_,_,_,rfl,s3⟩
   .ac_nf;exact⟨_,_,_,rfl,s3⟩
  .rw[vc c]at L;let⟨ds,e⟩:=B9 N (show j<⇑(cK ls ks) by rw[Jr];lia) (t:=J) (S:=S);rw[e]at L;let⟨p5,ys,rfl,e5,_⟩:=L.tup;refine bT (λz=>nomatch z) (λ_=>?_);ac_nf;exact⟨_,_,_,rfl,s3⟩
 rintro X H3 ⟨O,R,U,rfl,s2⟩;ac_nf;exact q H3 (λc u I h=>s2 _ _ (r c u I h)) (D.same s2)
def wE(T:Txt K mg t):2<*t.J3 t.qb ["_law_box","_law_longs_here","_law_number","_law_pins","_law_heights","_law_climbs"] (dn 0):=by
 refine T.JK.F.ok Jn (λc H Q E h=>?_) (λb A a s H c Q E d h=>?_)
 .exact uf h (Bf)
 .exact uf h (Bf)
def XD{rd rl:Nat}(T:Txt K mg t)(a8:2<=rl)(jX:2<*t.qf t.qm ["_law_found"] (dD))(qz:2<*t.zZ t.Zf ["_law_form_here","_law_pins","_law_heights","_law_climbs"] (fU))(ab:(rl+1)<*t.yT t.y6 ["_law_box","_law_longs_here","_law_inners","_law_pins","_law_heights","_law_climbs"] (iz rd))(qy:rl<*t.J3 t.qb ["_law_box","_law_longs_here","_law_number","_law_pins","_law_heights","_law_climbs"] (dn rd)):(rl+2)<*t.J3 t.qb ["_law_box","_law_longs_here","_law_number","_law_pins","_law_heights","_law_climbs"] (dn (rd+1)):=by
 specialize T.JK.F.ok Jn;let⟨bx,l,f,gl,hl,cl,a6,a4,ls,I,gs,hs,ht,S,C,k,i,U,v,rfl,A',Cl,ik,ag,h0,h1,dv,lf,k6,q⟩:=h;refine⟨_,(jb (cj 6 Jn.nd (jg jw (jg jk (pv 0) jc) (pv 2)))
  (jb (jM (PW.pt (YW (yp (ke (jy wG (by rfl) T.Z2 Zs (ja (pv 3) (ja (XV (v:=.ty "tuple") (by rfl) T.Z3 zD rfl) jd))))) (Yj (jp (XR hr.units) (pv 3) (jJ jd) (bH _)))))
   (jf (jv (qG JI jc)))
   ju)
  (jb (jM (jp j5 (jg jk (pv 6) jc) jD (bH _))
   (jf (jv (YJ ab hr (by rfl) T.zX.m T.zX.F.kp T.zX.B .nil c8 (ja (pv 0) (ja (pv 1) (ja (jg jk (pv 6) jc) (ja (pv 3) (ja (pv 4) (ja (pv 5) jd)))))))))
   ju)
  (jb (jM (PW.pt (Qc (jp yF (jg jk (pv 6) jc) jD (bH _)) (qQ (jp yF (jg jk (pv 6) jc) jD (bH _)))))
   (jf (jv (YJ (qz.mono (Nat.le_succ_of_le a8)) hr (by rfl) T.zW.m T.zW.F.kp T.zW.B .nil c8 (ja (pv 6) (ja (pv 3) (ja (pv 4) (ja (pv 5) jd)))))))
   ju)
  (jb (jM (PW.pt (YW (jp yF (jy jI (by rfl) T.Jl jZ (ja (pv 3) jd)) jc (bH _)) (YW (yp (ke (YJ (jX.mono (Nat.le_succ_of_le a8)) hr (by rfl) T.qc.m T.qc.F.kp T.qc.B .nil c8 (ja (jg jk (pv 3) jc) jd)))) (Yj (jp Zj (jg jk (pv 3) jc) jc (bH _))))))
   (jf (jv (qG JI jc)))
   ju)
  (jb (qH (jp j5 (jg jk (pv 6) jc) jD (bH _))
   (jb (cj 7 Jn.nd (jg jk (pv 6) jc))
   (jb (cj 8 Jn.nd (jr qq (jg jk (pv 3) jc) (jg jw (pv 1) (pv 7))))
   (jf (cj 9 Jn.nd (jg jk (pv 6) jc)))))
   (jb (cj 9 Jn.nd (jy jI (by rfl) T.Jl jZ (ja (jg jk (pv 6) jc) jd)))
   (jb (cj 7 Jn.nd (jg jk (jg jk (pv 6) jc) (jy (YB rfl) (by rfl) T.uw xW (ja (jg jk (pv 3) jc) (ja (jr JZ (pv 9) jc) jd)))))
   (jf (cj 8 Jn.nd (jy (zr rfl) (by rfl) T.WX Kr (ja (Jj (ow:=["_law_one"]) (ci:=[1]) rfl (bM.of (bG Zm) ["_law_box","_law_longs_here","_law_number","_law_pins","_law_heights","_law_climbs","_law_form_here","_law_inner","_law_ahead","_law_many","_law_gone_here"] rfl rfl ∅) (JM nofun) (yg (Q5 ua (jg jk (pv 6) jc) Zk (QU (jg jk (pv 3) jc)))) (λ_ _ _ _ _=>⟨(cA 0 (jW ["_law_box","_law_longs_here","_law_number","_law_pins","_law_heights","_law_climbs","_law_form_here","_law_inner","_law_ahead","_law_many","_law_gone_here"] rfl ∅)),JS,(jg (zI (K:=K) rfl) (pv 1) (pv 0))⟩)) jd)))))))
  (jb (cj 10 Jn.nd (YJ (qy.mono (Nat.le_succ _)) hr (by rfl) T.JK.m T.JK.F.kp T.JK.B .nil c8 (ja (pv 0) (ja (pv 1) (ja (pv 7) (ja (jg jk (pv 3) jc) (ja (pv 4) (ja (pv 5) jd))))))))
  (jb (jM (PW.pt (YW (jp Zj (pv 10) jc (bH _)) (Yj (jp sE (jg jk (pv 3) jc) (pv 9) (bH _)))))
   (jf (jv (qG JI jc)))
   ju)
  (jf (jv (jr jQ (pv 8) (pv 10)))))))))))),?_⟩
 rotate_right 605
 have N:=A'.N;have W:=N.s.w;obtain⟨d,hd⟩:∃d,I[i]?=some d:=⟨_,vz ik⟩
 let⟨a,ha,G⟩:=A'.b.at' hd;have hp:=yV (ls:=ls) hd;have lt:∀j∈d.ns,j<i:=λj R=>A'.x.dw.lt i _ hd j R
 have l8:=A'.x.dw.l8 d (vm hd);have ip:bY (cK ls I) (lT (bF ls) d)=d.ns:=Xm W λj R=>by have:=lt j R;lia
 have aa:i<⇑(cK ls I):=by rw[Jr];exact ik
 let⟨d1,dr,ed⟩:=Hk N aa h0 h1 (S:=S);obtain⟨p,xs,rfl,ep,xl⟩:∃a xs,v = .ref a/\H a=some (.tup xs)/\⇑xs=⇑(d1::dr):=by rw[ed]at dv;exact dv.tup
 have gg:=λj (R:j<⇑I)=>N.g (i:=j) (by rw[Jr];exact R)
 exists bO A'.b.t ?_;exists bU (bK.of A'.b.f) (ha) ?_;exists⟨_,_,_,_,rfl,.tup ep,WB,?_⟩;exists fH ?_;exists⟨by show 0<=sizeLine;lia,?_⟩;sleep 2;have sh:=(HP W (gs:=gs) (st:=S) (i:=i) (t:=U)).ok (by have:=A'.x.nF;lia);have a5:=(dv H2 λ_ _ e=>s2 _ _ e)
 rw[ed]at sh a5;refine⟨.tuple (d1::dr),.tuple [],a5,.tup t2 .nil,sh,rfl,?_⟩;exists dW rfl ?_;have A2:=A'.but Cl.choose_spec.choose_spec.1 (λc u _ e=>s2 _ _ e);have X:=Cl.same s2;have G2:=G.same s2;have B:=dv.keep (λ_ _ e=>s2 _ _ e);have q2:oe H2 cl C (k+⇑(reach (cK ls I) gs i U)) U Q:=λH' kk c=>q H' (λc u ne e=>kk _ _ ne (s2 _ _ e)) c
 clear A' Cl G q dv ep a5 ha;obtain⟨p,rfl⟩:∃p',p'=p:=⟨_,rfl⟩
 by_cases Z:(∀g,d≠.row g)/\(∀g,d≠.side g)/\∀k j,d≠.again k j
 .have ad:∃(o:Str) (vs:N2),H2 a=some (.tup (.str o::vs))/\o≠"side"/\o≠"row"/\o≠"again":=by
   cases d with
   | hold n=>exact⟨"hold",_,G2,by trivial,by trivial,by trivial⟩
   | ring x n=>exact⟨"ring",_,G2,by trivial,by trivial,by trivial⟩
   | rise x h n=>exact⟨"raise",_,G2,by trivial,by trivial,by trivial⟩
   | row g=>exact uf rfl (Z.1 g)
   | side g=>exact uf rfl (Z.2.1 g)
   | again k j=>exact uf rfl (Z.2.2 k j)
  let⟨o,vs,G',D,g2,g3⟩:=ad;have af:bZ (cK ls I) gs i=[]:=by
   unfold bZ;rw[hp];cases d with
   | hold n=>rfl
   | ring x n=>rfl
   | rise x h n=>rfl
   | row g=>exact uf rfl (Z.1 g)
   | side g=>exact uf rfl (Z.2.1 g)
   | again k j=>exact uf rfl (Z.2.2 k j)
  rw[CH af]at k6 q2;have k6:k+1<=6000:=k6;exists cD (bV.of G') (dZ) ?_;exists bT (λc=>uf c D) (λ_=>?_);exists cD (bV.of G') (dZ) ?_;exists dI (λ_=>?_) (λc=>uf c g2);exists cD (bV.of G') (dZ) ?_;exists dI (λ_=>?_) (λc=>uf c g3);ac_nf;exact⟨bx,l,f,gl,hl,cl,a,a6,a4,ls,I,gs,hs,ht,S,C,k,i,U,_,d,rfl,A2,X,hd,G2,Z,h0,h1,B,lf,⋯,q2⟩
 .have cs:(∃g,d = .side g)\/(∃g,d = .row g)\/∃k j,d = .again k j:=by
   cases d with
   | row g=>exact .inr (.inl ⟨_,rfl⟩)
   | side g=>exact .inl ⟨_,rfl⟩
   | again k j=>exact .inr (.inr ⟨_,_,rfl⟩)
   | hold n=>exact uf ⟨λ_ e=>(by cases e),λ_ e=>(by cases e),λ_ _ e=>(by cases e)⟩ Z
   | ring x n=>exact uf ⟨λ_ e=>(by cases e),λ_ e=>(by cases e),λ_ _ e=>(by cases e)⟩ Z
   | rise x h n=>exact uf ⟨λ_ e=>(by cases e),λ_ e=>(by cases e),λ_ _ e=>(by cases e)⟩ Z
  clear Z ed xl sh;rcases cs with⟨g,rfl⟩ | cs
  .let⟨b,D,g2⟩:=id G2;exists cD (bV.of D) (dZ) ?_;exists bT (λ_=>?_) (λc=>uf rfl c);exists bO D ?_;ac_nf;exact⟨bx,l,f,gl,hl,cl,b,a6,a4,ls,I,gs,hs,ht,S,C,k,i,U,_,g,rfl,A2,X,g2,hd,⋯,h0,h1,B,lf,k6,q2⟩
  .have F:∃(o:Str) (vs:N2) (j:Nat) (r J:Int) (y:V),H2 a=some (.tup (.str o::vs))/\o≠"side"/\((o = "row"/\∃(b:Addr) (g:L6) (m:Nat),vs=[.ref b]/\H2 b=some (.tup (g.map vN))/\⇑g<=8/\(∀j∈g,j<i)/\J=(m:Int)/\g[m]?=some j/\((g.take m).map λj=>gs.getD j 0).sum+r=U)\/(o = "again"/\∃n:Int,vs=[.int n,.int (j:Nat)]/\J<n/\n<=10^18/\J*gs.getD j 0+r=U))/\H2 p=some (.tup [.int J,y])/\g8 H2 y (cp ls (cK ls I) gs S j r)/\0<=J/\j<i/\0<=r/\r<gs.getD j 0/\(∀y∈reach (cK ls I) gs j r,y∈reach (cK ls I) gs i U)/\⇑(reach (cK ls I) gs j r)<=⇑(reach (cK ls I) gs i U):=by
    rcases cs with⟨g,rfl⟩ | ⟨n,j,rfl⟩
    .let⟨b,D,g2⟩:=id G2;have a1:bY (cK ls I) (.row (g.map fD))=g:=ip;let⟨j,R,r0,r1,pe⟩:=Bl N hp h0 h1;have a2:=LK N hp h0 h1 R;have a3:=DM (gs:=gs) (is:=bY (cK ls I) (.row (g.map fD))) (t:=U);rw[pe]at B;rw[a1]at R r0 r1 B a2 a3;let⟨a0,M⟩:=Wl W a2 ⋯;let⟨p',y,e1,O,dy⟩:=B.two;cases e1;exact⟨"row",_,j,_,_,y,D,by trivial,.inl ⟨rfl,b,g,_,rfl,g2,l8,lt,rfl,R,a3⟩,O,dy,Int.natCast_nonneg _,lt j (vm R),r0,r1,a0,M⟩
    .let⟨j',ej,eg,jl,D,pe⟩:=Wg N hp h0 h1;have a1:bY (cK ls I) (.again n (fD j))=[j]:=ip;rw[a1]at ej;cases ej;have a2:=GA N hp h0 h1 a1;rw[pe]at B;let⟨a0,M⟩:=Wl W a2 ⋯;let⟨p',y,e1,O,dy⟩:=B.two;cases e1;have em:=Int.emod_add_mul_ediv U (gs.getD j 0);rw[Int.mul_comm]at em;exact⟨"again",_,j,_,_,y,G2,by trivial,.inr ⟨rfl,n,rfl,Int.ediv_lt_of_lt_mul ⋯ ⋯,(N.uV i _ _ _ hp).2,⋯⟩,O,dy,Int.ediv_nonneg h0 ⋯,jl,ve _ ⋯,vf _ ⋯,a0,M⟩
   clear cs B;let⟨o,vs,j,r,J,y,D,ts,tw,O,dy,p0,jl,r0,r1,a0,M⟩:=F;exists cD (bV.of D) (dZ) ?_;exists bT (λc=>uf c ts) (λ_=>?_);exists cD (bV.of D) (dZ) ?_;exists Lu (λtr hR=>?_) ?_
   .exists cD (bV.of D) (dZ) ?_;exists dI (λc=>?_) (λ_=>?_)
    .rcases tw with⟨z,_⟩ | ⟨z,_⟩
     .rw[z]at tr;exact uf tr ∅
     .exact uf z c
    .exact hR
   refine fH ?_;exists⟨_,_,rfl,.inr ⟨_,bV.of O,rfl⟩,?_⟩;exists dI (λc=>uf rfl c) (λ_=>?_);exists bO O ?_;exists⟨_,_,rfl,.inl ⟨_,rfl,rfl⟩,?_⟩;exists fH ?_;exists bO O ?_;exists bT (λc=>uf c ⋯) (λ_=>?_);ac_nf;have gj:=gg j ⋯;refine⟨λS' H'=>fE λ(L Y:Int)=>i6 (S'=[↥bx,↥gl,some (.int (i:Nat)),↥p,↥hl,↥cl,↥a,some (.int (j:Nat)),~~~L,~~~Y,none]) (L+r=U) (J<Y/\bI H2 H'),?_,?_⟩
   .rintro S' H3 ⟨L,Y,rfl,ae,pm,s3⟩;exists bO (s3 _ _ O) ?_;exists⟨bx,l,f,gl,hl,cl,a6,a4,ls,I,gs,hs,ht,S,C,k,j,r,y,rfl,A2.but X.choose_spec.choose_spec.1 (λc u _ e=>s3 _ _ e),X.same s3,⋯,⋯,r0,r1,dy.keep (λ_ _ e=>s3 _ _ e),lf.rh a0,⋯,λH4 k4 a9=>?_⟩;exists bT (λc=>uf c ⋯) (λ_=>?_);have e4:H4 p=some (.tup [.int J,y]):=k4 _ _ (Je (s3 _ _ O) (s3 _ _ X.choose_spec.choose_spec.1) (λe=>by cases e)) (s3 _ _ O);exists bO e4 ?_;exists bT (λc=>uf c ⋯) (λ_=>?_);ac_nf;rw[ae];exact q2 H4 (λc u ne e=>k4 _ _ ne (s3 _ _ e)) (a9.le ⋯)
   exists cD (bV.of D) (dZ) ?_;ac_nf;rcases tw with⟨rfl,b,g,m,rfl,g2,ah,ac,rfl,R,es⟩ | ⟨rfl,n,rfl,pn,ai,es⟩
   .refine bT (λc=>uf c ∅) (λ_=>?_);have ml:=(vx.mp R).1;exists bO D ?_;exists⟨_,_,rfl,.inr ⟨_,bV.of g2,rfl⟩,?_⟩;exists bO D ?_;exists bO O ?_;exists⟨_,_,rfl,?_⟩;refine cD (bV.of g2) (by rw[vc (by rw[vt];lia)];exact jK (by rw[vv,R];rfl)) ?_;exists bO D ?_;exists bO O ?_;exists⟨b,_,rfl,bV.of g2,λz=>?_,?_⟩
    .have z2:=z.2;rw[HT.X6,vt]at z2;lia
    sleep 6;rw[Df,<-map_take]at t6;refine⟨p6,rfl,⟨_,bV.of t6⟩,?_⟩;refine Qu (xs:=(g.take m).map vN) (λu ys H'=>ys=(((g.take m).take u).map λj=>gs.getD j 0).map V.int/\H6=H') ⟨rfl,rfl⟩ ?_ ?_ ?_
    .rintro u ys H' _ ⟨rfl,rfl⟩;exact bV.of t6
    .rintro u v ys H' hv ⟨rfl,rfl⟩;rw[vv]at hv;let⟨i',a7,rfl⟩:=vg.mp hv;have im:=ac i' (mem_of_mem_take (vm a7));refine Jq (S':=[none,↥gl]) rfl ?_;exists dq ?_;exists bU (bK.of (s6 _ _ A2.g)) (jK (v:=.int (gs.getD i' 0)) (by rw[vv,N.xc (by rw[Jr];lia)];rfl)) ?_;refine⟨by rw[vt,vt,vi,vi];lia,?_,rfl⟩;rw[take_snoc a7,vj,vj];rfl
    rintro ys H' ⟨rfl,rfl⟩;rw[show((g.take m).map vN).length=⇑(g.take m) from vt _,v5];refine⟨by rw[vt,vt,vi];lia,?_⟩;sleep 7;exists⟨p7,_,rfl,bK.of t7,?_⟩;ac_nf;exact⟨_,_,rfl,es,by rw[vt];lia,s6.trans s7⟩
   .refine bT (λ_=>?_) (λc=>uf rfl c);exists bO D ?_;exists bO O ?_;exists bU (bK.of A2.g) (jK (v:=.int (gs.getD j 0)) (by rw[vv,N.xc (by rw[Jr];lia)];rfl)) ?_;exists bO D ?_;exact⟨_,_,rfl,es,pn,bI.refl _⟩
def WI(T:Txt K mg t)(wd:8<*t.xR t.Xg ["book","beat"] (gJ))(Qn:1<*t.qA t.qC ["self"] (ib t.jL t.jG))(Qo:5<*t.qw t.qx ["self"] (fe t.jL t.jG))(Qp:5<*t.Qr t.Qv ["self"] (iw t.jL t.jG))(jX:1<*t.qf t.qm ["_law_found"] (dD))(qy:124<*t.J3 t.qb ["_law_box","_law_longs_here","_law_number","_law_pins","_law_heights","_law_climbs"] (dn 61)):125<*t.ZZ t.Z6 ["_law_machine","_law_book_here","_law_box","_law_longs_here","_law_beat"] (gH t.jL t.jG):=by
 specialize T.ZS.F.ok JV;let⟨m,st,b,pl,pp,bx,l,f,gl,z,Y,a0,a8,a4,e,ps,o,gs,k,hs,hq,E,d,rfl,O,B,X,eg,Bk,N,ge,G,h1,D,q⟩:=h;refine⟨_,(jb (cj 5 JV.nd (Ye (pv 0) T.j3 T.Y4 (Qo.mono nofun) hr T.ko .nil c8))
  (jb (jM (PW.pt (YW (yp (ke (jq T.qc jX hr (ja (Ye (pv 0) T.j3 T.yC (Qn.mono nofun) hr T.yH .nil c8) jd)))) (Yj (jp yF (Ye (pv 0) T.j3 T.yC (Qn.mono nofun) hr T.yH .nil c8) (pv 4) (bH _)))))
   (jf (jv yG))
   ju)
  (jb (jM (jp (XS hr.units) (pv 5) (jq T.xI wd hr (ja (pv 1) (ja (pv 4) jd))) (bH _))
   (jf (jv yG))
   ju)
  (jb (jM (jp j5 (pv 4) (jg jw (pv 3) (qG JI jc)) (bH _))
   (jf (jv (B7 DF (Ye (pv 0) T.j3 T.yD (Qp.mono nofun) hr T.yI .nil c8) Wf (bH _))))
   ju)
  (jb (cj 6 JV.nd (jN jd))
  (jb (cj 7 JV.nd (jq T.JK qy hr (ja (pv 2) (ja (pv 3) (ja (jr JZ (jy jI (by rfl) T.Jl jZ (ja (pv 3) jd)) jc) (ja (Ye (pv 0) T.j3 T.yD (Qp.mono nofun) hr T.yI .nil c8) (ja (pv 5) (ja (pv 6) jd))))))))
  (jb (jM (jp yF (pv 7) (pv 4) (bH _))
   (jf (jv yG))
   ju)
  (jb (j7 PassesOwn.never rfl (jY (pv 6)) (Ju rfl (jz (cA 8 JV.nd) (jz (cA 9 JV.nd) (jz (cA 10 JV.nd) Jc))))
   (jf (jM (jp yF (jg jw (jq T.xI wd hr (ja (pv 1) (ja (jr JZ (pv 4) (pv 10)) jd))) (pv 8)) (pv 9) (bH _))
    (jf (jv yG))
    ju)))
  (jf (jv yG)))))))))),?_⟩
 rotate_right 506
 have C:=X.a.N;have Wq:=C.s.w;have ql:⇑(cK e o)=⇑o:=Jr _ _;have ne:=C.ne;have W:=C.s.gl;rw[ql]at ne W;let⟨U,Z⟩:=O.ob;have tq:d<=k.getD (⇑(cK e o)-1) 0:=by rw[ql];lia
 exists⟨m,U,_,rfl,Z,YE ∅ ∅ ∅,?_⟩;refine⟨m,st,z,e,_,k,hq,E,d,rfl,O,C,G,tq,λl1 H1 R ac e1 a5=>?_⟩;exists⟨m,U,_,rfl,R _ _ Z,YE ∅ ∅ ∅,?_⟩;refine⟨m,st,z,e,_,k,E,d,rfl,O.same R,?_⟩;exists⟨_,_,rfl,.inl ⟨_,rfl,rfl⟩,?_⟩;exists fH ?_;exists⟨m,U,_,rfl,R _ _ Z,YE ∅ ∅ ∅,?_⟩;refine⟨m,st,z,e,_,k,E,d,rfl,O.same R,?_⟩;exists dI (λc=>uf rfl c) (λ_=>?_);exists⟨b,pl,pp,Y,a0,e,ps,gs,hs,d,rfl,Bk.same R,N,G,h1,λl2 F H2 s2 ad fl oF e2 ab=>?_⟩;rw[<-D d F fl oF]at e2;have M:=Ft (n:=1) (cH e (cK e o) k E d);exists⟨_,_,DV.lst (s2 _ _ e1) (wg _),DV.lst e2 (wg _),M.ok nofun,M.ok nofun,?_⟩;rw[SeqAt.eqv_refl _ M.1];exists fH ?_;have g:=R.trans s2;exists bU (bK.of (g _ _ eg)) (we ne W) ?_;exists bT (λc=>?_) (λc=>?_)
 .exists⟨m,U,_,rfl,g _ _ Z,YE ∅ ∅ ∅,?_⟩;refine⟨m,st,z,e,_,k,hq,E,d,rfl,O.same g,C,G,tq,λv H3 s3 S=>?_⟩;unfold iZ at S;rw[vd (by rw[ql];lia)]at S;cases S;exists⟨rfl,?_⟩;exact q H3 (g.trans s3)
 .have c':¬k.getD (⇑(cK e o)-1) 0<=d:=by rw[ql];lia
  exists⟨by show 0<=sizeLine;lia,?_⟩;sleep 3;exists⟨_,_,rfl,.inl ⟨_,bK.of (s3 _ _ (g _ _ eg)),rfl⟩,?_⟩;ac_nf;have I:=g.trans s3;refine⟨m,U,_,rfl,I _ _ Z,YE ∅ ∅ ∅,?_⟩;refine⟨m,st,z,e,_,k,hq,E,d,rfl,O.same I,C,G,tq,λv H4 s4 S=>?_⟩;have J:=I.trans s4;have p:=LD (HN (E:=E) (t:=d) Wq X.x ne) S;unfold iZ at p;rw[vc c']at p;have rl:=IG X.a (T:=d) G;rw[ql]at p rl;have af:=X.x.nF;have rn:=EJ C (i:=⇑o-1) (t:=d) ⋯ G;have r:∀{c:Addr} {u:HO},H c=some u->c≠p3:=λh=>je (g _ _ h) hp3
  exists⟨bx,l,f,gl,l1,p3,a8,a4,e,o,k,hq,cH e (cK e o) k E d,eI e (cK e o) k E d,AZ e (cK e o) k E d,0,⇑o-1,d,v,?_,⟨B.same J,X.x,C,J _ _ eg,s4 _ _ (s3 _ _ (s2 _ _ e1)),a5,r B.l,r B.f,r eg,je (s2 _ _ e1) hp3⟩,⟨[],[],s4 _ _ t3,bL.nil,λc hc=>(nomatch hc),vb _⟩,⋯,⋯,G,⋯,p,rl,⋯,λH5 k5 a1=>?_⟩
  .rw[show((⇑(k.map V.int):Nat):Int)-1=((⇑o-1:Nat):Int) by rw[vt];lia];rfl
  let⟨a2,cs,c1,c2,c3,c4⟩:=a1;exists dI (λc=>uf rfl c) (λ_=>?_);exists⟨p3,rfl,⟨_,bK.of c1⟩,?_⟩;have s5:bI H H5:=λc u h=>k5 _ _ (r h) (J _ _ h)
  refine Jw (xs:=a2.map V.ref) (λi σ H'=>fZ λ(o8 o9 y:N3)=>σ=[↥m,↥b,↥bx,↥gl,~~~d,↥l1,↥p3,~~~d,o8,o9,y]/\bI H5 H') ⟨_,_,_,rfl,λ_ _ h=>h⟩ ?_ ?_ ?_
  .rintro i σ H' _ ⟨o8,o9,y,rfl,L⟩;exact bK.of (L _ _ c1)
  .rintro i x σ H' hx ⟨o8,o9,y,rfl,L⟩;let⟨a,⟨ck,a3,cr⟩,rfl,hc,ca⟩:=c2.cz hx;let⟨r0,r1,kl,se⟩:=c3 _ (vm hc);dsimp only at r0 r1 kl se;have aa:=s5.trans L;refine Dw (bV.of (L _ _ ca)) ?_;exists⟨b,pl,pp,Y,a0,e,ps,gs,hs,d-cr,rfl,Bk.same aa,N,⋯,⋯,λl7 F7 H7 s7 ae a7 a9 e7 a6=>?_⟩;rw[<-D _ F7 a7 a9]at e7 a6;exists bU (bK.of e7) (jK (j:=ck) (v:=.int a3) (by rw[<-se,vv,vy,vz ⋯];rfl)) ?_;exists dI (λc=>uf rfl c) (λ_=>?_);ac_nf;exact⟨_,_,_,rfl,L.trans s7⟩
  rintro S' H6 ⟨o8,o9,y,rfl,L⟩;ac_nf;exact q H6 (s5.trans L)
def Kp(T:Txt K mg t)(xJ:3<*t.xL t.Xc ["book"] (ie))(Qb:8<*t.JD t.qh ["self","box"] (iq t.jL t.jG))(zA:1<*t.qB t.qD ["self","beat"] (ir t.jL t.jG))(zc:2<*t.ZX t.Z4 ["_law_script","_law_j","_law_k"] (gw K))(yK:6<*t.yR t.yY ["_law_script","_law_many","_law_bounds"] (eZ K))(ZV:3<*t.Z0 t.Z7 ["_law_book_here","_law_number"] (gI))(ZU:1<*t.zf t.zj ["_law_box"] (gA))(zd:125<*t.ZZ t.Z6 ["_law_machine","_law_book_here","_law_box","_law_longs_here","_law_beat"] (gH t.jL t.jG)):126<*t.sL t.rL ["_law_script"] (Pr.gz K):=by
 specialize T.AD.F.ok zS;let⟨a,y,rfl,hS,a4,hB,q⟩:=h;refine⟨_,(jb (cj 1 zS.nd (jy (FG rfl) (by rfl) T.uv xV (ja jc (ja (jy (YB rfl) (by rfl) T.uw xW (ja (jr JZ (jy jI (by rfl) T.Jl jZ (ja (pv 0) jd)) jc) (ja jc jd))) jd))))
  (jb (Yg (jq T.KN yK hr (ja (pv 0) (ja (pv 1) (ja (jN (ja jc (ja (jr QN jc jc) (ja (jr jQ (jr QN jc jc) jc) (ja (jr QN jc jc) (ja (jr QN jc jc) jd)))))) jd)))) (Ju rfl (jz (cA 2 zS.nd) (jz (cA 3 zS.nd) Jc))))
  (jb (cj 4 zS.nd (jq T.BV xJ hr (ja (pv 2) jd)))
  (jb (cj 5 zS.nd (jq T.kr ZU hr (ja (pv 4) jd)))
  (jb (jM (jp yF (jg jw (pv 5) (qG JI jc)) (pv 3) (bH _))
   (jf (jv yG))
   ju)
  (jb (cj 6 zS.nd (XX T.E1 (Qb.mono nofun) hr (by rfl) T.Ez T.YZ .nil c8 (ja (pv 4) jd)))
  (jb (jM (yp (ke (jq T.ZS zd hr (ja (pv 6) (ja (pv 2) (ja (pv 4) (ja (pv 5) (ja jc jd))))))))
   (jf (jv yG))
   ju)
  (jb (cj 7 zS.nd (jN (ja (jr JZ (pv 3) jc) (ja (pv 3) (ja jc jd)))))
  (jb (j7 PassesOwn.never rfl (qP (by rfl) T.Qt (ja jc jd)) (cA 8 zS.nd)
   (jf (jR (Jy q3 q4 q5 jH (pv 7) (ja (jr j6 (jq T.ZQ zc hr (ja (pv 0) (ja (jr jQ jc (pv 8)) (ja (jr jQ jc (pv 8)) jd)))) (jr jQ (pv 3) jc)) jd)))))
  (jb (cj 7 zS.nd (jr Y8 (pv 7) (jq T.ku ZV hr (ja (pv 2) (ja (jq T.ZQ zc hr (ja (pv 0) (ja jc (ja jc jd)))) jd)))))
  (jb (j7 PassesOwn.never rfl (jY (pv 7)) (cA 9 zS.nd)
   (jb (jR (kP (pv 6) T.j3 T.K1 (zA.mono nofun) hr T.wv .nil c8 (ja (pv 9) jd)))
   (jf (jM (yp (ke (jq T.ZS zd hr (ja (pv 6) (ja (pv 2) (ja (pv 4) (ja (pv 5) (ja (pv 9) jd))))))))
    (jf (jv yG))
    ju))))
  (jf (jv yG))))))))))))),?_⟩
 rotate_right 109
 exists⟨_,_,rfl,.inl ⟨_,hS,rfl⟩,?_⟩;rw[vt];exists⟨_,_,rfl,?_⟩;exists⟨_,_,rfl,?_⟩;obtain⟨o,em,as,ah⟩:∃o:Nat,(if(2:Int)<(if(16:Int)<(⇑y:Int)-1 then 16 else(⇑y:Int)-1)then(if(16:Int)<(⇑y:Int)-1 then 16 else(⇑y:Int)-1)else 2)=(o:Int)/\2<=o/\o<=16:=by
  refine⟨(if(2:Int)<(if(16:Int)<(⇑y:Int)-1 then 16 else(⇑y:Int)-1)then(if(16:Int)<(⇑y:Int)-1 then 16 else(⇑y:Int)-1)else 2).toNat,?_,?_,?_⟩<;>(split<;>split<;>lia)
 rw[em];exists⟨(by show 5<=sizeLine;lia),?_⟩;walk_at"f bd hbd H1 s1 t1";exists⟨a,bd,y,o,30,10^18,10^18+1,10^18,10^60,rfl,s1.seq hS,a4,as,ah,⟨t1,by decide,by decide,by decide,by decide,by decide,by decide,by decide,by decide,by decide,by decide⟩,λr b pl pp l X f p G M gs H2 s2 ae Bk D N fl nL nd nW l1 l8 aA lW aC gb=>?_⟩;clear em;have au:=s1.trans s2;have dl:⇑(bS f G)=⇑G:=qN;have W:=N.s.w;have bo:=D.uZ l8 N.uD lW nW ⋯ ⋯;have O:=Xw W ⋯;have gp:=D.g (⇑G-1) ⋯;generalize eL:gs.getD (⇑G-1) 0=L at gp ae;refine J0 (bV.of ae) ?_;exists⟨b,pl,pp,l,X,p,_,rfl,Bk,W,⋯,λtb lb fb B ms H3 s3 et el ef _ _ _ dr Kd=>?_⟩;have R:=Bk.same s3;have Bx:=CF O l8 Kd;have Wq:=Md Bx W.ln;have Cr:=Lz W ⋯ Kd;have kl:⇑(cZ (cG p (bS f G)) ms)=⇑ms:=w6 _ _;let⟨⟨c,ao,ap⟩,_⟩:=Kd.named O;have qe:⇑(cK p (cZ (cG p (bS f G)) ms))=⇑ms:=(Jr _ _).trans kl;let⟨Z,hq,Nq,ac⟩:=LA N Cr ⋯ Wq;have ak:=λ(E F:L0) (h1:⇑E=_) (h2:⇑F=_) hE hF (t0:Int)=>GG N Nq Cr (E:=E) (F:=F) h1 h2 hE hF t0
 clear Cr kl ao ap qe Kd;generalize cZ (cG p (bS f G)) ms=kk at *;exists⟨tb,lb,fb,l,B,p,kk,Z,hq,rfl,⟨et,el,R.la,ef,dr⟩,Bx,Nq,λgl a1 I ar a9=>?_⟩;have R:=R.same I;have et:=I _ _ et;have el:=I _ _ el;have ef:=I _ _ ef;have dr:g9 a1 B kk:=bL.mono dr λa d h=>h.same I
 replace s3:=s3.trans I
 clear I ar;rename_i H3o;have a5:⇑(cK p kk)=⇑kk:=Jr _ _;have gL:Z.getD (⇑kk-1) 0=L:=by rw[<-a5,ac,dl,eL]
 have k1:=Nq.ne;rw[a5]at k1;exists bU (bK.of a9) (we k1 (Nq.s.gl.trans a5)) ?_;exists dI (λc=>uf gL c) (λ_=>?_);ac_nf;intro m dm hm aq aB;have s4:bI a1 (upd (upd a1 dm (.own m)) m (.ins t.jL dm [])):=λc u h=>(jh (je h hm)).trans ((jh (je h aq)).trans h)
 refine⟨m,dm,tb,lb,fb,l,B,p,kk,Z,hq,rfl,jA,s4 _ _ et,s4 _ _ el,R.la.mono λb x h=>s4 _ _ h,s4 _ _ ef,bL.mono dr λa d h=>h.same s4,Bx,Nq,λst z E H5 k5 az A5=>⟨rfl,?_⟩⟩;have J:bI a1 H5:=λc u h=>k5 _ _ (je h hm) (s4 _ _ h)
 have a0:=R.same J;have av:=au.trans (s3.trans J);have ad:=av.seq hS;let⟨ay,ai⟩:=A5.ob;have XE:rP p kk Z hq E:=⟨Bx,Nq,A5.sg.el,A5.sg.eo⟩
 have a8:=J _ _ a9;have BA:fX H5 tb lb fb l B p kk:=⟨J _ _ et,J _ _ el,a0.la,J _ _ ef,bL.mono dr λa d h=>h.same J⟩
 have ab:Z.getD (⇑kk-1) 0=gs.getD (⇑(bS f G)-1) 0:=by rw[gL,dl,eL]
 have aj:∀(t0:Int) (F:L0),⇑F=⇑(bS f G)->cP p (bS f G) F->cH p (cK p kk) Z E t0=cH p (bS f G) gs F t0:=λt0 F an oF=>(ak F E an A5.sg.el oF A5.sg.eo t0).1
 have aa:∀j k:Int,0<=c9 (Pr.cell y j) k*c9 (Pr.cell y (j+1)) (k+20)/\c9 (Pr.cell y j) k*c9 (Pr.cell y (j+1)) (k+20)<=10^70:=λj k=>by
  have u1:=Q4 (Pr.cell y j) k;have u2:=Q4 (Pr.cell y (j+1)) (k+20);have h:c9 (Pr.cell y j) k*c9 (Pr.cell y (j+1)) (k+20)<=(10^30+57)*(10^30+57):=Int.mul_le_mul ⋯ ⋯ u2.1 nofun;exact⟨Int.mul_nonneg u1.1 u2.1,Int.le_trans h nofun⟩
 exists⟨m,st,b,pl,pp,tb,lb,fb,gl,z,l,X,l,B,p,_,kk,gs,Z,M,hq,E,0,rfl,A5,BA,XE,a8,a0,N,ab,⋯,by rw[dl,eL];lia,aj,λH6 s6=>?_⟩;exists fH ?_;exists⟨uc,?_⟩;walk_at"f 8 e";have aD:=s6.trans s8;exists⟨4,rfl,by decide,by decide,?_⟩;refine QM (λi σ H'=>fE λ(o8:N3) (xs:L5)=>m9 (σ=[↥a,~~~o,↥b,~~~L,↥tb,↥gl,↥m,↥p8,o8,none]) (bI H6 H') (H' p8=some (.lst (xs.map V.int))) (⇑xs=i+3) (∀x∈xs,0<=x/\x<=L))
  ⟨_,[L-1,L,0],rfl,s8,e8,rfl,λx hx=>by
   rcases mem_cons.mp hx with rfl | hx
   .lia
   rcases mem_cons.mp hx with rfl | hx
   .lia
   rw[vo.mp hx];lia⟩ ?_ ?_
 .rintro i σ H' hi ⟨o8,xs,rfl,sm,e8,xl,hx⟩;have hi:i<4:=hi;exists⟨.inl ⟨rfl,_,bK.of e8⟩,?_⟩;exists⟨a,y,_,_,rfl,sm.seq (s6.seq ad),a4,⋯,⋯,⋯,⋯,?_⟩;exists⟨p8,_,_,rfl,rfl,e8,by rw[vt];lia,?_⟩;generalize c9 _ _*c9 _ _=g;have g0:=ve g (show L+1≠0 by lia);have g1:=vf g (show 0<L+1 by lia);refine⟨_,xs++[g%(L+1)],rfl,Ws.GS sm hp8,by rw[jA,vj];rfl,by rw[vn,xl];show i+3+1=_;lia,λx S=>?_⟩;rcases vh.mp S with h | h
  .exact hx x h
  .rw[vo.mp h];exact⟨g0,⋯⟩
 rintro σ H9 ⟨o8,xs,rfl,s9,e9,xl,hx⟩;have xl:⇑xs=7:=xl;have a6:=s6.trans s9;have DB:oO H9 b pl pp l X p f G M gs:=⟨a0.same a6,D,nd,⋯,⋯,⋯⟩
 exists⟨a,y,1,50,rfl,a6.seq ad,a4,⋯,⋯,⋯,⋯,?_⟩;exists⟨b,pl,pp,l,X,p,f,G,M,gs,_,rfl,DB,(aa 1 50).1,(aa 1 50).2,λlz zs aw al ez zl hz=>?_⟩;rw[eL]at hz;refine⟨p8,lz,_,_,rfl,rfl,al _ _ e9,ez,by rw[vt,vt];lia,?_⟩;walk_at"f 12 e";have Y:=a6.trans (al.trans s12);rw[<-vj]at e12;have af:∀x∈xs++zs,0<=x/\x<=L:=λx S=>by
  rcases vh.mp S with h | h
  .exact hx x h
  .have:=hz x h;lia
 generalize xs++zs=us at e12 af;exists⟨p12,rfl,⟨_,bK.of e12⟩,?_⟩;refine Jw (xs:=us.map V.int) (λi σ H'=>fZ λ(o8 o9:N3) (tm:Int)=>dH (σ=[↥a,~~~o,↥b,~~~L,↥tb,↥gl,↥m,↥p12,o8,o9]) ((∀c u,c≠m->H12 c=some u->H' c=some u)/\hJ t.jL t.jG H' m st z p (cK p kk) Z E tm))
  ⟨_,_,0,rfl,λc u _ h=>h,A5.same Y⟩ ?_ ?_ ?_
 .rintro i σ H' _ ⟨o8,o9,tm,rfl,k',A'⟩;exact bK.of (k' _ _ (Je e12 (Y _ _ ai) (λz=>by cases z)) e12)
 .rintro i v σ H' hv ⟨o8,o9,tm,rfl,k',A'⟩;rw[vv]at hv;let⟨x,S,rfl⟩:=vg.mp hv;let⟨x0,x1⟩:=af x (vm S);let⟨dx,ob⟩:=A'.ob;exists⟨m,dx,_,rfl,ob,YE ∅ ∅ ∅,?_⟩;exists⟨m,st,z,p,_,Z,E,tm,x,rfl,A',x0,by rw[ac,dl,eL];lia,λa3 ag a7=>?_⟩;have U:∀(c:Addr) (u:HO),(∀C d G,u≠.ins C d G)->H5 c=some u->a3 c=some u:=λc u nu h=>by
   have ne:c≠m:=λe=>by rw[e,ai]at h;cases h;exact nu _ _ _ rfl
   exact ag _ _ ne (k' _ _ ne (Y _ _ h))
  have a2:∀(c:Addr) (xs:N2),H5 c=some (.tup xs)->a3 c=some (.tup xs):=λc xs h=>U _ _ (λ_ _ _ z=>nomatch z) h
  have B':fX a3 tb lb fb l B p kk:=⟨a2 _ _ BA.t,U _ _ (λ_ _ _ z=>nomatch z) BA.l,BA.la.mono λa x h=>a2 _ _ h,U _ _ (λ_ _ _ z=>nomatch z) BA.f,bL.mono BA.d λa d h=>g5.ph a2 h⟩
  exists⟨m,st,b,pl,pp,tb,lb,fb,gl,z,l,X,l,B,p,_,kk,gs,Z,M,hq,E,x,rfl,a7,B',XE,U _ (.lst _) (λ_ _ _ z=>nomatch z) a8,a0.dM a2 (λc xs h=>U _ _ (λ_ _ _ z=>nomatch z) h),N,ab,x0,by rw[dl,eL];lia,aj,λax am=>?_⟩;exists fH ?_;ac_nf;exact⟨_,_,x,rfl,λc u n h=>am _ _ (ag _ _ n (k' _ _ n h)),a7.same am⟩
 rintro σ H' ⟨o8,o9,tm,rfl,k',A'⟩;ac_nf;exact q _
theorem Zx(T:Txt K mg t)(a:2<*t.qf t.qm ["_law_found"] (dD))(b:2<*t.zZ t.Zf ["_law_form_here","_law_pins","_law_heights","_law_climbs"] (fU)):∀n,(2+2*n)<*t.J3 t.qb ["_law_box","_law_longs_here","_law_number","_law_pins","_law_heights","_law_climbs"] (dn n)
 | 0=>wE T
 | n+1=>XD T (Nat.le_add_right _ _) a b (XI T (Nat.le_add_right _ _) (Zx T a b n)) (Zx T a b n)
def Ia(T:Txt K mg t):126<*t.sL t.rL ["_law_script"] (Pr.gz K):=by
 have c:1<*t.Qj t.Ql _ _:=XM T;have a:1<*t.qg t.qo _ _:=WM T;have e:=HH T a c;have p:1<*t.zB t.zE _ _:=Ei T;have y:=EC T p;have xJ:=G9 T c e y;have B:1<*t.Yy t.YC _ _:=EE T;have x:=EB T c B;have k:=Hc T a p;have o:=HG T a k;have xK:=Hd T o;have U:1<*t.zh t.zm _ _:=WL T;have yM:1<*t.Za t.Zg _ _:=XN T;have z:=ED T k xK U yM;have yN:1<*t.Zb t.Zh _ _:=XO T;have yO:=XQ T k yN;have m:=kL T a o z yO;have I:=YQ T x m;have zA:1<*t.qB t.qD _ _:=K4 T;have i:1<*t.JW t.JY _ _:=K6 T;have b:1<*t.qd t.qj _ _:=WF T;have zc:=WC T i b;have l:1<*t.Q0 t.Q3 _ _:=XL T;have N:1<*t.zg t.zk _ _:=WH T;have yL:=XC T N;have d:1<*t.Qi t.Qk _ _:=XH T;have u:1<*t.Qs t.Qw _ _:=WG T;have r:1<*t.QY t.Q1 _ _:=XF T;have g:=XJ T b;have W:=Wd T g;have G:=kN T g W;have F:=kM T i b l d u r g G;have yK:=XB T i b l yL d u r F;have O:=WD T d;have S:=WJ T O;have R:1<*t.zf t.zj _ _:=WE T;have f:1<*t.xO t.Xf _ _:=HI T;have q:1<*t.zC t.zF _ _:=Ej T;have Z:=Fc T q;have v:=Wc T Z;have n:=YR T f v;have wd:=He T m n;have J:1<*t.qA t.qC _ _:=K2 T;have L:=Y7 T n;have D:=EG T q;have C:=EF T v D;have M:=K5 T C;have j:1<*t.qf t.qm _ _:=WK T;have Y:=XG T j;have X:124<*t.J3 t.qb _ _:=Zx T (j.mono nofun) (Y.mono nofun) 61;have zd:=WI T wd J L M j X;exact Kp T xJ I zA zc yK S R zd
theorem fin{P:Program}{w:World}{K:cg}{mg:Nw}{base:Heap}{t:Ad}(T:Txt K mg t):eJ P w K mg base oK 126 t.sL t.rL ["_law_script"] (Pr.gz K):=by
 refine Classical.byContradiction λh=>?_
 have z:=Classical.epsilon_spec (p:=λb=>¬gB b) ⟨⟨P,w,K,mg,base,t⟩,λz=>h (z T)⟩
 rw[show Classical.epsilon (λb=>¬gB b)=cB by unfold cB;rfl]at z
 exact z (λT=>Ia T)
end
@[elab_as_elim] theorem uu1{P:L9->Prop}(us:L9)(hl:⇑us=1)(h:∀a0,P [a0]):P us:=by
 cases us with
 | nil=>cases hl
 | cons a r=>cases r with
  | nil=>exact h a
  | cons b s=>cases hl
def iO{K:cg}{x q:Str}{st:Stmt}{f:Addr}{l:FuncData}{m:Str}(F:eK K x q st f l)(h:∀(kV j p:Value) (an:Option Addr) (i n:Value) (k:Value),bindArgs (W.fnOf x q (dh st) (cY st) (bG st) .none kV j p an i n) ⟨[k],[]⟩=pure ([m].zip [k]):=by intros;rfl):Binds K l [m] []:=F.binds λa b c d e g r o=>uu1 r o (h a b c d e g)
@[elab_as_elim] theorem uu2{P:L9->Prop}(us:L9)(hl:⇑us=2)(h:∀a0 a1,P [a0,a1]):P us:=by
 cases us with
 | nil=>cases hl
 | cons a r=>exact @uu1 (λr=>P (a::r)) r (Nat.succ.inj hl) (h a)
def kc{K:cg}{x q:Str}{st:Stmt}{f:Addr}{m:FuncData}{n o:Str}(F:eK K x q st f m)(h:∀(kV j s:Value) (an:Option Addr) (i p:Value) (k l:Value),bindArgs (W.fnOf x q (dh st) (cY st) (bG st) .none kV j s an i p) ⟨[k,l],[]⟩=pure ([n,o].zip [k,l]):=by intros;rfl):Binds K m [n,o] []:=F.binds λa b c d e g t r=>uu2 t r (h a b c d e g)
@[elab_as_elim] theorem uu3{P:L9->Prop}(us:L9)(hl:⇑us=3)(h:∀a0 a1 a2,P [a0,a1,a2]):P us:=by
 cases us with
 | nil=>cases hl
 | cons a r=>exact @uu2 (λr=>P (a::r)) r (Nat.succ.inj hl) (h a)
def nZ{K:cg}{x q:Str}{st:Stmt}{f:Addr}{n:FuncData}{o p r:Str}(F:eK K x q st f n)(h:∀(kV j u:Value) (an:Option Addr) (i s:Value) (k l m:Value),bindArgs (W.fnOf x q (dh st) (cY st) (bG st) .none kV j u an i s) ⟨[k,l,m],[]⟩=pure ([o,p,r].zip [k,l,m]):=by intros;rfl):Binds K n [o,p,r] []:=F.binds λa b c d e g v t=>uu3 v t (h a b c d e g)
@[elab_as_elim] theorem uu4{P:L9->Prop}(us:L9)(hl:⇑us=4)(h:∀a0 a1 a2 a3,P [a0,a1,a2,a3]):P us:=by
 cases us with
 | nil=>cases hl
 | cons a r=>exact @uu3 (λr=>P (a::r)) r (Nat.succ.inj hl) (h a)
def uY{K:cg}{x q:Str}{st:Stmt}{f:Addr}{o:FuncData}{p r s t:Str}(F:eK K x q st f o)(h:∀(kV j w:Value) (an:Option Addr) (i u:Value) (k l m n:Value),bindArgs (W.fnOf x q (dh st) (cY st) (bG st) .none kV j w an i u) ⟨[k,l,m,n],[]⟩=pure ([p,r,s,t].zip [k,l,m,n]):=by intros;rfl):Binds K o [p,r,s,t] []:=F.binds λa b c d e g y v=>uu4 y v (h a b c d e g)
@[elab_as_elim] theorem uu5{P:L9->Prop}(us:L9)(hl:⇑us=5)(h:∀a0 a1 a2 a3 a4,P [a0,a1,a2,a3,a4]):P us:=by
 cases us with
 | nil=>cases hl
 | cons a r=>exact @uu4 (λr=>P (a::r)) r (Nat.succ.inj hl) (h a)
def sj{K:cg}{x q:Str}{st:Stmt}{f:Addr}{p:FuncData}{r s t u v:Str}(F:eK K x q st f p)(h:∀(kV j z:Value) (an:Option Addr) (i w:Value) (k l m n o:Value),bindArgs (W.fnOf x q (dh st) (cY st) (bG st) .none kV j z an i w) ⟨[k,l,m,n,o],[]⟩=pure ([r,s,t,u,v].zip [k,l,m,n,o]):=by intros;rfl):Binds K p [r,s,t,u,v] []:=F.binds λa b c d e g A y=>uu5 A y (h a b c d e g)
@[elab_as_elim] theorem uu6{P:L9->Prop}(us:L9)(hl:⇑us=6)(h:∀a0 a1 a2 a3 a4 a5,P [a0,a1,a2,a3,a4,a5]):P us:=by
 cases us with
 | nil=>cases hl
 | cons a r=>exact @uu5 (λr=>P (a::r)) r (Nat.succ.inj hl) (h a)
def A3{K:cg}{x q:Str}{st:Stmt}{f:Addr}{r:FuncData}{s t u v w y:Str}(F:eK K x q st f r)(h:∀(kV j B:Value) (an:Option Addr) (i z:Value) (k l m n o p:Value),bindArgs (W.fnOf x q (dh st) (cY st) (bG st) .none kV j B an i z) ⟨[k,l,m,n,o,p],[]⟩=pure ([s,t,u,v,w,y].zip [k,l,m,n,o,p]):=by intros;rfl):Binds K r [s,t,u,v,w,y] []:=F.binds λa b c d e g C A=>uu6 C A (h a b c d e g)
abbrev Ng(K:cg)(x:Str)(f:Addr):Prop:=W.nsIn K mainGlobals x=some (some (.ref f))
abbrev N0(K:cg)(x:Str):Prop:=W.nsIn K mainGlobals x=some none
abbrev Nn(K:cg)(C:Addr)(x:Str):Prop:=W.findIn K (.ref C) x=some none
abbrev Nx(K:cg)(C:Addr)(x:Str)(f:Addr):Prop:=W.findIn K (.ref C) x=some (some (.ref f))
abbrev dG(K:cg)(x:Str)(st:Stmt)(f:Addr)(d:FuncData):Prop:=eK K x x st f d
set_option autoImplicit true in
def LQ{K:cg}{h:Heap}{mg:Nw}(X:K.In h)(G:h.Ns mainGlobals mg)
  {a:Addr}
  (f:Ng K "Machine" a) (k:W.plainGet K a Str.empty=true) (g:W.hasDictIn K a=true) (l:W.plainOver K a=true) (m:W.findIn K (.ref a) "__setattr__"= some (some (.builtin "object.__setattr__"))) (j:W.makesIn K a=true) (i:W.keepIn K (.ref a)=true) (JJ:Nn K a "stage") (Qy:Nn K a "last") (JR:Nn K a "now")
  {b:Addr}
  (o:Ng K "Stage" b) (s:W.plainGet K b Str.empty=true) (p:W.hasDictIn K b=true) (u:W.plainOver K b=true) (w:W.findIn K (.ref b) "__setattr__"= some (some (.builtin "object.__setattr__"))) (r:W.makesIn K b=true) (q:W.keepIn K (.ref b)=true) (qY:Nn K b "limbs") (QT:Nn K b "first") (qv:Nn K b "forms") (Jd:Nn K b "sizes") (zo:Nn K b "left") (qF:Nn K b "pieces")
  (a1:Ng K "_wall" f1) (F1:dG K "_wall" X7 f1 d1)
  (a2:Ng K "numbers_of" f2) (F2:dG K "numbers_of" yx f2 d2)
  (a3:Ng K "names_in" f3) (F3:dG K "names_in" kf f3 d3)
  (a4:Ng K "form_with" f4) (F4:dG K "form_with" Zn f4 d4)
  (a5:Ng K "made" f5) (F5:dG K "made" Ai f5 d5)
  (a6:Ng K "come_to" f6) (F6:dG K "come_to" KI f6 d6)
  (a7:Ng K "drums" f7) (F7:dG K "drums" wo f7 d7)
  (a8:Ng K "name_of" f8) (F8:dG K "name_of" KJ f8 d8)
  (a9:Ng K "book_of" f9) (F9:dG K "book_of" zu f9 d9)
  (aF:Ng K "inner" f10) (L:dG K "inner" wp f10 d10)
  (aG:Ng K "ends" f11) (N:dG K "ends" Ah f11 d11)
  (aH:Ng K "moved" f12) (P:dG K "moved" wt f12 d12)
  (aI:Ng K "check_side" f13) (Q:dG K "check_side" zq f13 d13)
  (aJ:Ng K "length_of" f14) (R:dG K "length_of" Yu f14 d14)
  (aK:Ng K "lengths" f15) (S:dG K "lengths" ZO f15 d15)
  (aL:Ng K "ramp" f16) (T:dG K "ramp" Aj f16 d16)
  (aM:Ng K "pieces_in" f17) (U:dG K "pieces_in" Yv f17 d17)
  (aN:Ng K "pieces_of" f18) (Y:dG K "pieces_of" Zo f18 d18)
  (aO:Ng K "progress" f19) (Z:dG K "progress" kg f19 d19)
  (aP:Ng K "within" rJ) (a0:dG K "within" Wn rJ d20)
  (aB:Nx K b "__init__" f21) (aD:W.isFn K (.ref f21)=true) (y:eK K "__init__" "Stage.__init__" J1 f21 d21)
  (aQ:Nx K b "scene" f22) (bp:W.isFn K (.ref f22)=true) (z:eK K "scene" "Stage.scene" Zy f22 d22)
  (aR:Nx K b "heights_at" f23) (bq:W.isFn K (.ref f23)=true) (A:eK K "heights_at" "Stage.heights_at" Qe f23 d23)
  (aS:Nx K b "words_at" f24) (br:W.isFn K (.ref f24)=true) (B:eK K "words_at" "Stage.words_at" QO f24 d24)
  (aT:Ng K "stand" f25) (aa:dG K "stand" X8 f25 d25)
  (aU:Ng K "pins_of" f26) (ab:dG K "pins_of" ZP f26 d26)
  (aV:Ng K "pins_at" f27) (ac:dG K "pins_at" KK f27 d27)
  (aC:Nx K a "__init__" f28) (aE:W.isFn K (.ref f28)=true) (C:eK K "__init__" "Machine.__init__" Qd f28 d28)
  (aW:Nx K a "step" f29) (bs:W.isFn K (.ref f29)=true) (D:eK K "step" "Machine.step" zQ f29 d29)
  (aX:Nx K a "jump" f30) (bt:W.isFn K (.ref f30)=true) (E:eK K "jump" "Machine.jump" zN f30 d30)
  (aY:Nx K a "beat" f31) (bu:W.isFn K (.ref f31)=true) (F:eK K "beat" "Machine.beat" zM f31 d31)
  (aZ:Nx K a "heights" f32) (bv:W.isFn K (.ref f32)=true) (H:eK K "heights" "Machine.heights" Qz f32 d32)
  (b0:Nx K a "pins" f33) (bw:W.isFn K (.ref f33)=true) (I:eK K "pins" "Machine.pins" zP f33 d33)
  (b1:Nx K a "kept" f34) (bx:W.isFn K (.ref f34)=true) (J:eK K "kept" "Machine.kept" zO f34 d34)
  (b2:Ng K "_law_cell_at" f35) (ad:dG K "_law_cell_at" zR f35 d35)
  (b3:Ng K "_law_mixed" f36) (ae:dG K "_law_mixed" yt f36 d36)
  (b4:Ng K "_law_great" f37) (af:dG K "_law_great" yq f37 d37)
  (b5:Ng K "_law_whole" f38) (ag:dG K "_law_whole" yw f38 d38)
  (b6:Ng K "_law_word" f39) (ah:dG K "_law_word" Yt f39 d39)
  (b7:Ng K "_law_named" f40) (ai:dG K "_law_named" zp f40 d40)
  (b8:Ng K "_law_form" f41) (aj:dG K "_law_form" Yn f41 d41)
  (b9:Ng K "_law_long" f42) (ak:dG K "_law_long" Q7 f42 d42)
  (ba:Ng K "_law_moves" f43) (al:dG K "_law_moves" yu f43 d43)
  (bb:Ng K "_law_last" f44) (am:dG K "_law_last" Yo f44 d44)
  (bc:Ng K "_law_take" f45) (an:dG K "_law_take" Yr f45 d45)
  (bd:Ng K "_law_naming" f46) (ao:dG K "_law_naming" Qa f46 d46)
  (be:Ng K "_law_form_told" f47) (ap:dG K "_law_form_told" QQ f47 d47)
  (bf:Ng K "_law_book_told" f48) (aq:dG K "_law_book_told" QP f48 d48)
  (bg:Ng K "_law_book" f49) (ar:dG K "_law_book" Ym f49 d49)
  (bh:Ng K "_law_known" f50) (as:dG K "_law_known" yr f50 d50)
  (bi:Ng K "_law_seams" f51) (au:dG K "_law_seams" QB f51 d51)
  (bj:Ng K "_law_longs" f52) (av:dG K "_law_longs" QA f52 d52)
  (bk:Ng K "_law_leaf" f53) (aw:dG K "_law_leaf" Yp f53 d53)
  (bl:Ng K "_law_side" f54) (ax:dG K "_law_side" Yq f54 d54)
  (bm:Ng K "_law_gone" f55) (ay:dG K "_law_gone" Zm f55 d55)
  (bn:Ng K "_law_right" f56) (az:dG K "_law_right" yv f56 d56)
  (bo:Ng K "law" f57) (aA:dG K "law" AH f57 d57)
  {d:Tok}
  (n:W.nsIn K mainGlobals "FIGURES"= some (some (.str "abcdefghijklmnopqrstuvwxyz" d)))
  {qS:Addr}
  (c:Ng K "MOST_NAMES" qS) (kk_MOST_NAMES:pZ K qS [("row",.flat (.int 8)),("side",.flat (.int 4))])
  (z0:N0 K "abs") (z1:N0 K "bool") (z2:N0 K "dict") (z3:N0 K "enumerate") (z4:N0 K "int") (z5:N0 K "isinstance") (z6:N0 K "len") (z7:N0 K "list") (z8:N0 K "max") (z9:N0 K "min") (bz:N0 K "range") (bA:N0 K "reversed") (bB:N0 K "sorted") (bC:N0 K "sum") (bD:N0 K "tuple") (bE:N0 K "zip") :
  ∃t:Ad,Txt K mg t:=by
 have M:∀{x v},W.nsIn K mainGlobals x=some (some v)->mg x=some v:=λe=>W.mg_of X G e
 have O:∀{x},N0 K x->mg x=none:=λe=>W.mg_none_of X G e
 exact⟨⟨f1,_,f2,_,f3,_,f4,_,f5,_,f6,_,f7,_,f8,_,f9,_,f10,_,f11,_,f12,_,f13,_,f14,_,f15,_,f16,_,f17,_,f18,_,f19,_,rJ,_,f21,_,f22,_,f23,_,f24,_,f25,_,f26,_,f27,_,f28,_,f29,_,f30,_,f31,_,f32,_,f33,_,f34,_,f35,_,f36,_,f37,_,f38,_,f39,_,f40,_,f41,_,f42,_,f43,_,f44,_,f45,_,f46,_,f47,_,f48,_,f49,_,f50,_,f51,_,f52,_,f53,_,f54,_,f55,_,f56,_,f57,_,b,a,_,_⟩,⟨⟨F1,M a1,iO F1⟩,⟨F2,M a2,iO F2⟩,⟨F3,M a3,iO F3⟩,⟨F4,M a4,nZ F4⟩,⟨F5,M a5,iO F5⟩,⟨F6,M a6,kc F6⟩,⟨F7,M a7,iO F7⟩,⟨F8,M a8,iO F8⟩,⟨F9,M a9,iO F9⟩,⟨L,M aF,iO L⟩,⟨N,M aG,iO N⟩,⟨P,M aH,iO P⟩,⟨Q,M aI,nZ Q⟩,⟨R,M aJ,kc R⟩,⟨S,M aK,iO S⟩,⟨T,M aL,uY T⟩,⟨U,M aM,nZ U⟩,⟨Y,M aN,kc Y⟩,⟨Z,M aO,nZ Z⟩,⟨a0,M aP,nZ a0⟩,y,⟨aB,aD,y.kp⟩,kc y,z,⟨aQ,bp,z.kp⟩,kc z,A,⟨aR,bq,A.kp⟩,kc A,B,⟨aS,br,B.kp⟩,kc B,⟨aa,M aT,kc aa⟩,⟨ab,M aU,sj ab⟩,⟨ac,M aV,kc ac⟩,C,⟨aC,aE,C.kp⟩,kc C,D,⟨aW,bs,D.kp⟩,iO D,E,⟨aX,bt,E.kp⟩,kc E,F,⟨aY,bu,F.kp⟩,iO F,H,⟨aZ,bv,H.kp⟩,iO H,I,⟨b0,bw,I.kp⟩,iO I,J,⟨b1,bx,J.kp⟩,iO J,⟨ad,M b2,kc ad⟩,⟨ae,M b3,kc ae⟩,⟨af,M b4,nZ af⟩,⟨ag,M b5,iO ag⟩,⟨ah,M b6,kc ah⟩,⟨ai,M b7,uY ai⟩,⟨aj,M b8,sj aj⟩,⟨ak,M b9,kc ak⟩,⟨al,M ba,nZ al⟩,⟨am,M bb,nZ am⟩,⟨an,M bc,kc an⟩,⟨ao,M bd,sj ao⟩,⟨ap,M be,sj ap⟩,⟨aq,M bf,nZ aq⟩,⟨ar,M bg,nZ ar⟩,⟨as,M bh,iO as⟩,⟨au,M bi,kc au⟩,⟨av,M bj,iO av⟩,⟨aw,M bk,uY aw⟩,⟨ax,M bl,A3 ax⟩,⟨ay,M bm,A3 ay⟩,⟨az,M bn,sj az⟩,⟨aA,M bo,iO aA⟩,⟨s,p,u,w⟩,⟨r,aB,aD,q⟩,M o,qY,QT,qv,Jd,zo,qF,⟨k,g,l,m⟩,⟨j,aC,aE,i⟩,M f,JJ,Qy,JR,O z0,O z1,O z2,O z3,O z4,O z5,O z6,O z7,O z8,O z9,O bz,O bA,O bB,O bC,O bD,O bE,M n,⟨_,rfl⟩,M c,kk_MOST_NAMES⟩⟩
end
end K40
open PySem PySem.W PyProof.Rows
set_option maxRecDepth 100000 in
set_option maxHeartbeats 0 in
theorem PySem.Challenge.cw_camplay_k40_whole_pins_walked_holds : PySem.Challenge.rw_camplay_k40_whole_pins_walked.Holds := by
 w_on;o_law;k_head;(case hw=>w_witness2)
 k_fill
 refine L2.Hv (l:=PySem.Challenge.rw_camplay_k40_whole_pins_walked) (n:=63) (k:=126) (x:="_law_script") (CX:=L2.oK) (sp:=Pr.gz) rfl nofun rfl ⟨rfl,by decide,by decide⟩ (λw h Y=>PySem.W.kIn_of Y) ?F (λK H a ns hl hb hO hS=>⟨a,ns,rfl,hS,hl,hb,λ_=>rfl⟩) (λ_ _ _ _ z=>z)
 case F=>
  intro w mg fa h KX G hmg;have TT:∃t:K40.Ad,K40.Txt (L2.KOf KX) mg t:=by
   dsimp only[L2.KOf];refine' K40.LQ KX G ?_ ?_ ?_ ?_ ?_ ?_ ?_ ?_ ?_ ?_ ?_ ?_ ?_ ?_ ?_ ?_ ?_ ?_ ?_ ?_ ?_ ?_ ?_ ?_ (L2.jE ?_ ?_ ?_) ?_ (L2.jE ?_ ?_ ?_) ?_ (L2.jE ?_ ?_ ?_) ?_ (L2.jE ?_ ?_ ?_) ?_ (L2.jE ?_ ?_ ?_) ?_ (L2.jE ?_ ?_ ?_) ?_ (L2.jE ?_ ?_ ?_) ?_ (L2.jE ?_ ?_ ?_) ?_ (L2.jE ?_ ?_ ?_) ?_ (L2.jE ?_ ?_ ?_) ?_ (L2.jE ?_ ?_ ?_) ?_ (L2.jE ?_ ?_ ?_) ?_ (L2.jE ?_ ?_ ?_) ?_ (L2.jE ?_ ?_ ?_) ?_ (L2.jE ?_ ?_ ?_) ?_ (L2.jE ?_ ?_ ?_) ?_ (L2.jE ?_ ?_ ?_) ?_ (L2.jE ?_ ?_ ?_) ?_ (L2.jE ?_ ?_ ?_) ?_ (L2.jE ?_ ?_ ?_) ?_ ?_ (L2.jE ?_ ?_ ?_) ?_ ?_ (L2.jE ?_ ?_ ?_) ?_ ?_ (L2.jE ?_ ?_ ?_) ?_ ?_ (L2.jE ?_ ?_ ?_) ?_ (L2.jE ?_ ?_ ?_) ?_ (L2.jE ?_ ?_ ?_) ?_ (L2.jE ?_ ?_ ?_) ?_ ?_ (L2.jE ?_ ?_ ?_) ?_ ?_ (L2.jE ?_ ?_ ?_) ?_ ?_ (L2.jE ?_ ?_ ?_) ?_ ?_ (L2.jE ?_ ?_ ?_) ?_ ?_ (L2.jE ?_ ?_ ?_) ?_ ?_ (L2.jE ?_ ?_ ?_) ?_ ?_ (L2.jE ?_ ?_ ?_) ?_ (L2.jE ?_ ?_ ?_) ?_ (L2.jE ?_ ?_ ?_) ?_ (L2.jE ?_ ?_ ?_) ?_ (L2.jE ?_ ?_ ?_) ?_ (L2.jE ?_ ?_ ?_) ?_ (L2.jE ?_ ?_ ?_) ?_ (L2.jE ?_ ?_ ?_) ?_ (L2.jE ?_ ?_ ?_) ?_ (L2.jE ?_ ?_ ?_) ?_ (L2.jE ?_ ?_ ?_) ?_ (L2.jE ?_ ?_ ?_) ?_ (L2.jE ?_ ?_ ?_) ?_ (L2.jE ?_ ?_ ?_) ?_ (L2.jE ?_ ?_ ?_) ?_ (L2.jE ?_ ?_ ?_) ?_ (L2.jE ?_ ?_ ?_) ?_ (L2.jE ?_ ?_ ?_) ?_ (L2.jE ?_ ?_ ?_) ?_ (L2.jE ?_ ?_ ?_) ?_ (L2.jE ?_ ?_ ?_) ?_ (L2.jE ?_ ?_ ?_) ?_ (L2.jE ?_ ?_ ?_) ?_ (L2.jE ?_ ?_ ?_) ?_ ?_ ?kk_MOST_NAMES ?_ ?_ ?_ ?_ ?_ ?_ ?_ ?_ ?_ ?_ ?_ ?_ ?_ ?_ ?_ ?_
   any_goals first | (show PySem.W.nsIn _ _ _=_;k_is) | (show PySem.W.findIn _ _ _=_;k_is) | k_is
   (case kk_MOST_NAMES=>(show PyProof.Rows.KTD.tabLook _ _ _ _=true);kernel_rfl)
  let⟨t,T⟩:=TT;let⟨_,_,kV,dc,pm,an,cd,ct,_,e,_⟩:=T.AD.F.ex;have e0:=hmg.symm.trans T.AD.m;cases e0;refine⟨t.rL,λs v=>?_,λbase _ _=>K40.fin T⟩;rw[e];exact .of_eq rfl
#print axioms PySem.Challenge.cw_camplay_k40_whole_pins_walked_holds
