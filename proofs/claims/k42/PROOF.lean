import PyProof.Rows.All
import Wide.All
import OpenK.AllK
import Wide.FinOn
import Lean
import PyProof.EqAt
import PyProof.EqKinds
import PyProof.TupleCall
import PySem.Challenge.RW_camplay_k42_kept_and_resumed
set_option Elab.async false
set_option linter.all false
set_option compiler.extract_closed false
set_option bootstrap.genMatcherCode false
set_option maxRecDepth 100000
set_option maxHeartbeats 4000000
open List (all_cons all_eq_true any_cons any_eq_true append_nil ext_getElem filterMap_cons filter_append filter_cons filter_cons_of_neg filter_cons_of_pos filter_nil flatMap_append flatMap_cons foldl_append foldl_cons forall_mem_cons getD_eq_getElem?_getD getElem_idxOf getElem_map getElem_mem getElem_range getElem_take idxOf_lt_length_of_mem length_cons length_drop length_filter_le length_map length_nil length_pos_iff length_range length_reverse length_singleton length_take lookup_cons map_append map_congr_left map_cons map_nil map_reverse mem_append mem_append_left mem_append_right mem_cons mem_cons_of_mem mem_cons_self mem_filter mem_filterMap mem_flatMap mem_iff_getElem mem_map mem_of_mem_take mem_range mem_reverse mem_singleton nil_append nodup_append nodup_cons nodup_nil of_mem_zip pairwise_cons pairwise_iff_getElem pairwise_map pairwise_singleton range_succ reverse_cons size_toArray sum_append sum_cons take_length take_of_length_le take_sublist)
open Lean in
def BM:Nat->Term->MacroM (TSyntax `rcasesPat)
 | 0,_=>Macro.throwUnsupported
 | n+1,t=>match t with
  | `(⟨$xs,*⟩)=>do let ps<-xs.getElems.mapM λx=>do let p<-BM n x;`(Parser.Tactic.rcasesPatLo| $p:rcasesPat)
                   `(rcasesPat| ⟨$ps,*⟩)
  | `(_)=>`(rcasesPat| _)
  | `($x:ident)=>`(rcasesPat| $x:ident)
  | _=>Macro.throwUnsupported
local macro_rules | `(tactic| let $p:term:=$e) => do let q<-BM 9 p;`(tactic| obtain $q:rcasesPat:=$e)
set_option hygiene false
local macro_rules | `(⇑$x) => `(($x).length)
local macro_rules | `(↥$x) => `(some (.ref $x))
local macro_rules | `(~~~$x) => `(some (.int $x))
local macro_rules | `($x∘$y) => `(($x).getD $y 0)
set_option hygiene true
local macro_rules | `(∅) => `(by trivial)
local macro_rules | `(#v[$x]) => `(by simpa using $x)
abbrev Nz:=PySem.Value->PySem.Shared->Prop
abbrev Ny:=List (PySem.Addr×PySem.Obj)
abbrev Nw:=PySem.Str->Option PySem.Value
abbrev Nv:=Option PySem.Value
abbrev Nu:=Option Int
abbrev Nt:=List PySem.Expr
abbrev Nr:=List PySem.Env
abbrev Np:=List (Int×Int)
local macro_rules | `(tactic| and_intros) => `(tactic| first | exact .inl rfl | exact .inr rfl | assumption)
local macro_rules | `(⋯) => `(by lia)
local macro_rules | `(nofun) => `(by decide)
abbrev vz:=@List.getElem?_eq_getElem
abbrev vy:=@List.getD_eq_getElem?_getD
abbrev vx:=@List.getElem?_eq_some_iff
abbrev vv:=@List.getElem?_map
abbrev vt:=@List.length_map
abbrev vq:=@List.mem_cons_self
abbrev vp:=@List.mem_cons_of_mem
abbrev vo:=@List.mem_singleton
abbrev vn:=@List.length_append
abbrev vm:=@List.mem_of_getElem?
abbrev vj:=@List.map_append
abbrev vi:=@List.length_take
abbrev vh:=@List.mem_append
abbrev vg:=@Option.map_eq_some_iff
abbrev vf:=@Int.emod_lt_of_pos
abbrev ve:=@Int.emod_nonneg
abbrev vd:=@if_pos
abbrev vc:=@if_neg
abbrev vb:=@Nat.le_refl
abbrev va:=@Nat.zero_le
abbrev vA:=@Int.le_refl
abbrev vB:=@List.getElem?_append_left
abbrev vC:=@List.getElem?_append_right
abbrev vD:=@Nat.lt_of_le_of_lt
abbrev vE:=@Nat.ne_of_lt
abbrev vF:=@Bool.false_ne_true
abbrev vG:=@decide_eq_true
abbrev vH:=@decide_eq_false
abbrev vI:=@PySem.Heap.lt_size
abbrev vJ:=@PySem.Heap.get?_push_of_some
abbrev vK:=@List.mem_map
abbrev vL:=@Option.some.inj
abbrev vP:=@List.mem_filter
abbrev vQ:=@List.length_cons
abbrev vS:=@List.length_singleton
abbrev vV:=@List.pairwise_cons
abbrev vW:=@Nat.le_trans
abbrev vY:=@Nat.le_of_lt
abbrev v7:=@List.mem_range
abbrev v8:=@List.take_length
abbrev uz:=@List.map_map
abbrev ux:=@List.filter_cons
abbrev uw:=@List.map_cons
abbrev ut:=@Int.zero_add
abbrev ug:=@List.nodup_cons
abbrev ud:=@PySem.wpAny_bind
abbrev uc:=@PySem.wpAny_pure
abbrev ub:=@absurd
def ua:1<=PySem.sizeLine:=by decide
def uA:2<=PySem.sizeLine:=by decide
def uB:3<=PySem.sizeLine:=by decide
def uC:4<=PySem.sizeLine:=by decide
abbrev cG := PySem.W.Frag
abbrev L0:=List (List (Int×Int))
abbrev L1:=List (List Int)
abbrev L3:=List (Nat×Int)
abbrev L4:=List (PySem.Str×Int)
abbrev L5:=List Int
abbrev L6:=List Nat
abbrev L7:=List PySem.Addr
abbrev L8:=List PySem.Str
abbrev L9:=List PySem.Value
abbrev q5:=@PySem.F.plainAttrs_list
abbrev q7:=@PySem.F.slot_list_append
abbrev iA:=@PySem.F.type_list_append
abbrev u4:=@PySem.F.plainAttrs_dict
namespace L2
open PySem PySem.Spec PyProof.Rows
noncomputable abbrev Key:=Sum Int Str
noncomputable def gG:Key->Value->Bool
 | .inl k,v=>Value.isInt k v
 | .inr x,v=>Value.isStrOf x v
noncomputable def tw(w:World):Key->Int
 | .inl k=>hashInt k
 | .inr x=>hashStr w x
def Jo:∀{k:Key} {v:Value},gG k v=true->(∃i t,k=Sum.inl i/\v=Value.int i t)\/(∃x t,k=Sum.inr x/\v=Value.str x t)
 | .inl i,v,h=>by
  let⟨t,e⟩:=Value.isInt_shape (k:=i) (v:=v) h;exact .inl ⟨i,t,rfl,e⟩
 | .inr x,v,h=>by
  let⟨t,e⟩:=Value.isStrOf_shape (x:=x) (v:=v) h;exact .inr ⟨x,t,rfl,e⟩
def Xv(i:Int)(t:Tok):gG (.inl i) (.int i t)=true:=by simp[gG,Value.isInt]
def GI(x:Str)(t:Tok):gG (.inr x) (.str x t)=true:=by simp[gG,Value.isStrOf]
def M5(a b:Int):decide ((Sum.inl a:Key)=Sum.inl b)=(a==b):=by
 lia
def M9(a b:Str):decide ((Sum.inr a:Key)=Sum.inr b)=decide (a=b):=by
 lia
def M6(a:Int)(b:Str):decide ((Sum.inl a:Key)=Sum.inr b)=false:=vH (λq=>nomatch q)
def M7(a:Str)(b:Int):decide ((Sum.inr a:Key)=Sum.inl b)=false:=vH (λq=>nomatch q)
noncomputable def cw(prog:Program)(w:World):PySem.KeyKind prog w Key where
 is:=gG
 hash:=tw w
 inj:=λv a b ha hb=>by
  rcases Jo ha with⟨i,t,rfl,rfl⟩ | ⟨x,t,rfl,rfl⟩
  .rcases Jo hb with⟨j,u,rfl,e⟩ | ⟨y,u,rfl,e⟩
   .injection e with e1 _;rw[e1]
   .exact nomatch e
  .rcases Jo hb with⟨j,u,rfl,e⟩ | ⟨y,u,rfl,e⟩
   .exact nomatch e
   .injection e with e1 _;rw[e1]
 byValue:=λk v h=>by
  rcases Jo h with⟨i,t,rfl,rfl⟩ | ⟨x,t,rfl,rfl⟩<;>rfl
 pyHash:=λhv h=>by
  rcases Jo hv with⟨i,t,rfl,rfl⟩ | ⟨x,t,rfl,rfl⟩
  .exact wpAny_pyHash_int h
  .exact wpAny_pyHash_str h
 eqBool:=λhu hv h=>by
  rcases Jo hu with⟨i,t,rfl,rfl⟩ | ⟨x,t,rfl,rfl⟩
  .rcases Jo hv with⟨j,u,rfl,rfl⟩ | ⟨y,u,rfl,rfl⟩
   .rw[M5]at h;exact wpAny_eqBool_int h
   .rw[M6]at h;exact SeqAt.EqAt.int_str i t y u _ _ _ _ h
  .rcases Jo hv with⟨j,u,rfl,rfl⟩ | ⟨y,u,rfl,rfl⟩
   .rw[M7]at h;exact SeqAt.EqAt.str_int x t j u _ _ _ _ h
   .rw[M9]at h;exact wpAny_eqBool_str h
 «strs»:=λk x t v h=>by
  rcases Jo h with⟨i,u,rfl,e⟩ | ⟨y,u,rfl,e⟩
  .exact nomatch e
  .injection e with e1 _;subst e1;cases v<;>rfl
def FF(prog:Program)(w:World)(i:Int)(t:Tok):(cw prog w).is (.inl i) (.int i t)=true:=Xv i t
def FG(prog:Program)(w:World)(x:Str)(t:Tok):(cw prog w).is (.inr x) (.str x t)=true:=GI x t
inductive V where
 | de | bl (b:Bool) | int (i:Int) | str (x:Str) | mu (b:Array UInt8) | pz (b:UInt64) | ref (a:Addr) | ty (n:String)
 deriving DecidableEq
abbrev N3:=Option V
abbrev N2:=List V
noncomputable def RelV:V->Value->Prop
 | .de,u=>u=Value.none
 | .bl b,u=>u=Value.bool b
 | .int i,u=>∃t,u=Value.int i t
 | .str x,u=>∃t,u=Value.str x t
 | .mu b,u=>∃t,u=Value.bytes b t
 | .pz b,u=>∃t,u=Value.float b t
 | .ref a,u=>u=Value.ref a
 | .ty n,u=>u=Value.type n
noncomputable abbrev Vals:N2->L9->Prop:=Paired RelV
def Vals.length(r:Vals xs us):⇑xs=⇑us:=Paired.length r
theorem Vals.get:∀{xs:N2} {us:L9} {i:Nat} {x:V},Vals xs us->xs[i]?=some x->∃u,us[i]?=some u/\RelV x u
 | _,_,_,_,.nil,e=>by simp at e
 | _,_,0,_,.cons r _,e=>by simp at e;subst e;exact⟨_,rfl,r⟩
 | _,_,i+1,x,.cons _ t,e=>by
  let⟨u,a,b⟩:=Vals.get (i:=i) (x:=x) t #v[e];exact⟨u,#v[a],b⟩
theorem Vals.set(r:RelV x u):∀{xs:N2} {us:L9} (i:Nat),Vals xs us->Vals (xs.set i x) (us.set i u)
 | _,_,_,.nil=>.nil
 | _,_,0,.cons _ t=>.cons r t
 | _,_,i+1,.cons q t=>.cons q (Vals.set r i t)
def Vals.append:∀{xs ys:N2} {us a:L9},Vals xs us->Vals ys a->Vals (xs++ys) (us++a):=by
 intro xs ys us a h s
 induction h with
 | nil=>exact s
 | cons r t ih=>exact .cons r ih
theorem Vals.take:∀{xs:N2} {us:L9} (n:Nat),Vals xs us->Vals (xs.take n) (us.take n)
 | _,_,0,_=>.nil
 | _,_,_+1,.nil=>.nil
 | _,_,n+1,.cons r t=>.cons r (Vals.take n t)
theorem Vals.drop:∀{xs:N2} {us:L9} (n:Nat),Vals xs us->Vals (xs.drop n) (us.drop n)
 | _,_,0,r=>r
 | _,_,_+1,.nil=>.nil
 | _,_,n+1,.cons _ t=>Vals.drop n t
noncomputable def gg:N3->Option Value->Prop
 | some v,some u=>RelV v u
 | none,none=>True
 | _,_=>False
noncomputable def KV{κ:Type}:List (κ×V)->List (κ×Value)->Prop:=Paired λ(p:κ×V) (q:κ×Value)=>p.1=q.1/\RelV p.2 q.2
noncomputable def kV:Key->V
 | .inl i=>.int i
 | .inr x=>.str x
inductive HO where
 | lst (xs:N2)
 | tup (xs:N2)
 | dK (kvs:List (Key×V)) | dT (kvs:List (List Key×V))
 | set (S:Int->Bool) (n:Nat)
 | ins (C dx:Addr) (fs:List (Str×V))
 | own (x:Addr)
 | xd (fs:List (Str×V))
 | met (f x:Addr)
 | tM (lo hi:Int)
 | lZ (o:Obj) (u:HO)
 | oX (ps:Array Value)
 | ext (φ:Heap->Prop)
noncomputable abbrev Hp:=Addr->Option HO
noncomputable def upd(H:Hp)(a:Addr)(o:HO):Hp:=λb=>if b=a then some o else H b
def jA{H:Hp}:upd H a o a=some o:=by unfold upd;rw[vd rfl]
def jg{H:Hp}(h:b≠a):upd H a o b=H b:=by unfold upd;rw[vc h]
def LD{H:Hp}{a:Addr}{o u:HO}:upd (upd H a o) a u=upd H a u:=by
 funext b;unfold upd;split<;>rfl
def Jz{H:Hp}(h:H a=some o)(h':H b=some u)(d:o≠u):a≠b:=by
 intro e;subst e;rw[h]at h';exact d (vL h')
def je{H:Hp}(h:H a=some o)(h':H b=none):a≠b:=by
 lia
section
variable(P:Program)(w:World)
noncomputable def cD(H:Hp)(h:Heap)(a:Addr):HO->Prop
 | .lst xs=>⇑xs<=sizeLine/\∃(its:L9) (n:Nat),Vals xs its/\h.get? a=some {cls:=.type "list",data:=.seq its.toArray n}
 | .tup xs=>⇑xs<=sizeLine/\∃its:L9,Vals xs its/\IsTup h a its.toArray
 | .dK kvs=>⇑kvs<=sizeLine/\(a==sysModules)=false/\∃vs,KV kvs vs/\h.DictOf (cw P w) a vs
 | .dT kvs=>⇑kvs<=sizeLine/\(a==sysModules)=false/\∃xs:List (List Key×Addr×Value),
   Paired (λ(p:List Key×V) (q:List Key×Addr×Value)=>p.1=q.1/\H q.2.1=some (.tup (p.1.map kV))/\RelV p.2 q.2.2) kvs xs/\
   ∃o es ep,h.get? a=some o/\o.ExactDict/\o.data = .dict es ep/\es.toList=xs.map (entryOfKey (tupleKind (cw P w)))/\(xs.map (·.1)).Nodup
 | .set S n=>h.SetOf (intKind P w) a S n
 | .ins C dx fs=>H dx=some (.own a)/\⇑fs<=1000/\dx≠a/\h.get? a=some (PySem.W.instObj C dx)/\
   ∃mA,h.Ns1 dx mA/\(∀f,gg (fs.lookup f) (mA f))/\PySem.Within mA (fs.map (·.1))
 | .own _=>∃o,h.get? a=some o
 | .xd fs=>∃mA,h.Ns1 a mA/\∀f,gg (fs.lookup f) (mA f)
 | .tM lo hi=>∃t u v,h.get? a=some {cls:=.type "range",data:=.fields #[.int lo t,.int hi u,.int 1 v]}
 | .lZ o u=>h.get? a=some o/\cD H h a u
 | .oX ps=>h.get? a=some {cls:=.none,data:=.fields ps}
 | .met f x=>h.get? a=some (PySem.W.methodObj (.ref f) (.ref x))
 | .ext φ=>φ h/\(∃o,h.get? a=some o)/\∀h1 h2:Heap,φ h1->(∀o,h1.get? a=some o->h2.get? a=some o)->φ h2
def fy(H:Hp)(h:Heap):Prop:=∀a o,H a=some o->cD P w H h a o
end
section
variable{P:Program}{w:World}{H H':Hp}{h h':Heap}{a:Addr}{o:HO}
def cD.lt(x:cD P w H h a o):a<h.objs.size:=by
 cases o with
 | lst xs=>let⟨j,j,j,j,e⟩:=x;exact vI e
 | tup xs=>let⟨j,j,j,p⟩:=x;exact p.lt
 | dK kvs=>let⟨j,j,j,j,o,j,j,e,j⟩:=x;exact vI e
 | dT kvs=>let⟨j,j,j,j,o,j,j,e,j⟩:=x;exact vI e
 | set S n=>let⟨o,j,j,j,e,j⟩:=x;exact vI e
 | ins C dx fs=>let⟨j,j,j,e,j⟩:=x;exact vI e
 | own y=>let⟨j,e⟩:=x;exact vI e
 | xd fs=>let⟨j,⟨j,j,j,e,j⟩,j⟩:=x;exact vI e
 | tM lo hi=>let⟨j,j,j,e⟩:=x;exact vI e
 | lZ ob u=>let⟨e,j⟩:=x;exact vI e
 | oX ps=>exact vI (show h.get? a=some _ from x)
 | met f y=>exact vI (show h.get? a=some _ from x)
 | ext φ=>let⟨j,⟨j,e⟩,j⟩:=x;exact vI e
def Paired.tD{c d:Type}{F G:c->d->Prop}:∀{l₁:List c} {l₂:List d},Paired F l₁ l₂->(∀a b,F a b->G a b)->Paired G l₁ l₂:=by
 intro l₁ l₂ h f
 induction h with
 | nil=>exact .nil
 | cons r t ih=>exact .cons (f _ _ r) ih
def cD.iQ(x:cD P w H h a o)(k:∀b u,(b=a\/H b=some (.own a))->h.get? b=some u->h'.get? b=some u)
  (D:∀b,H b=some (.own a)->H' b=some (.own a)) (E:∀b xs,H b=some (.tup xs)->H' b=some (.tup xs)):cD P w H' h' a o:=by
 induction o with
 | lst xs=>let⟨z,l,n,r,e⟩:=x;exact⟨z,l,n,r,k _ _ (.inl rfl) e⟩
 | tup xs=>let⟨z,l,r,g,e,c⟩:=x;exact⟨z,l,r,g,k _ _ (.inl rfl) e,c⟩
 | dK kvs=>let⟨z,y,G,r,g,j,i,e,c⟩:=x;exact⟨z,y,G,r,g,j,i,k _ _ (.inl rfl) e,c⟩
 | dT kvs=>
  let⟨z,y,xs,r,g,j,i,e,c⟩:=x;exact⟨z,y,xs,Paired.tD r λp q z=>⟨z.1,E _ _ z.2.1,z.2.2⟩,g,j,i,k _ _ (.inl rfl) e,c⟩
 | set S n=>let⟨g,j,i,t,e,c⟩:=x;exact⟨g,j,i,t,k _ _ (.inl rfl) e,c⟩
 | ins C dx fs=>
  let⟨d,z,F,e,m,⟨s,j,i,B,c⟩,r⟩:=x;exact⟨D _ d,z,F,k _ _ (.inl rfl) e,m,⟨s,j,i,k _ _ (.inr d) B,c⟩,r⟩
 | own y=>let⟨g,e⟩:=x;exact⟨g,k _ _ (.inl rfl) e⟩
 | xd fs=>let⟨m,⟨s,j,i,e,c⟩,r⟩:=x;exact⟨m,⟨s,j,i,k _ _ (.inl rfl) e,c⟩,r⟩
 | tM lo hi=>let⟨t,u,v,e⟩:=x;exact⟨t,u,v,k _ _ (.inl rfl) e⟩
 | lZ g u ih=>let⟨e,q⟩:=x;exact⟨k _ _ (.inl rfl) e,ih q⟩
 | oX ps=>
  have e:h.get? a=some {cls:=.none,data:=.fields ps}:=x;show h'.get? a=some {cls:=.none,data:=.fields ps};exact k a _ (.inl rfl) e
 | met f y=>
  have e:h.get? a=some (PySem.W.methodObj (.ref f) (.ref y)):=x;show h'.get? a=some (PySem.W.methodObj (.ref f) (.ref y));exact k a _ (.inl rfl) e
 | ext φ=>let⟨p,⟨o,e⟩,A⟩:=x;exact⟨A _ _ p λo q=>k _ _ (.inl rfl) q,⟨o,k _ _ (.inl rfl) e⟩,A⟩
def fy.lt(x:fy P w H h)(e:H a=some o):a<h.objs.size:=(x a o e).lt
def fy.fresh(x:fy P w H h)(e:h.objs.size<=a):H a=none:=by
 cases q:H a with
 | none=>rfl
 | some u=>exact ub (Nat.lt_of_lt_of_le (x.lt q) e) (Nat.lt_irrefl _)
def fy.kept(x:fy P w H h)(k:∀b u,h.get? b=some u->h'.get? b=some u):fy P w H h':=λa o e=>
 (x a o e).iQ (λb u j q=>k b u q) (λj q=>q) λj j q=>q
def fy.laid(x:fy P w H h)(k:∀b u,h.get? b=some u->h'.get? b=some u)(i:h.objs.size<=a)(d:cD P w (upd H a o) h' a o):fy P w (upd H a o) h':=λb u e=>by
 have g:=x.fresh i;by_cases f:b=a
 .subst f;rw[jA]at e;cases e;exact d
 .rw[jg f]at e;exact(x b u e).iQ (λc v Z q=>k c v q) (λc q=>by rw[jg (je q g)];exact q) λc j q=>by rw[jg (je q g)];exact q
end
def Rd(H:Hp)(a:Addr)(u:HO):Prop:=H a=some u\/∃o,H a=some (.lZ o u)
def Rd.ok{H:Hp}(r:Rd H a u)(x:fy P w H h):cD P w H h a u:=by
 rcases r with r | ⟨o,r⟩
 .exact x a u r
 .let⟨_,q⟩:=x a _ r;exact q
noncomputable def sL:Option HO->Prop
 | some (.lst _)=>True
 | some (.dK _)=>True
 | some (.dT _)=>True
 | some (.set _ _)=>True
 | some (.ins _ _ _)=>True
 | some (.ext _)=>True
 | _=>False
section
variable{P:Program}{w:World}{H:Hp}{h h':Heap}{x e:Addr}{o':HO}
def fy.write(p:fy P w H h)(f:sL (H x))(t:e=x\/H e=some (.own x))(k:∀b u,b≠e->h.get? b=some u->h'.get? b=some u)(j:∃u,h'.get? e=some u)
  (l:cD P w (upd H x o') h' x o'):fy P w (upd H x o') h':=λb u q=>by
 have a:∀c y,H c=some (.own y)->c≠x:=λc y r z=>by subst z;rw[r]at f;exact f
 have d:∀c g,H c=some (.tup g)->c≠x:=λc g r z=>by subst z;rw[r]at f;exact f
 by_cases m:b=x
 .subst m;rw[jA]at q;cases q;exact l
 .rw[jg m]at q;by_cases i:b=e
  .have n:H b=some (.own x):=by
    lia
   rw[q]at n;cases n;let⟨v,o⟩:=j;exact⟨v,by rw[i];exact o⟩
  .refine(p b u q).iQ (λc v s r=>k c v ?_ r) (λc r=>by rw[jg (a c b r)];exact r) λc g r=>by rw[jg (d c g r)];exact r
   grind
end
structure Un(fs ex:L7)(H H':Hp)(h h':Heap):Prop where
 keep:∀b o,h.get? b=some o->H b=none->b∉fs->b∉ex->h'.get? b=some o
 slot:∀b o,h.get? b=some o->H b=none->b∈fs->b∉ex->∃sl,h'.get? b=some {o with slots:=sl}
 free:∀b o,h.get? b=some o->H b=none->b∉ex->H' b=none
 there:∀b o,h.get? b=some o->b∉ex->∃o',h'.get? b=some o'
 eJ:∀b xs,H b=some (.tup xs)->H' b=some (.tup xs)
 gS:∀b o u,H b=some (.lZ o u)->H' b=some (.lZ o u)
 iS:∀b ps,H b=some (.oX ps)->∃more,H' b=some (.oX (ps++more))
section
variable{fs fs' ex ex':L7}{H H1 H2:Hp}{h h1 h2 h':Heap}{a x e:Addr}{o:HO}
def Un.any(u:Un fs ex H H1 h h1)(q:h.get? b=some ob)(n:H b=none)(c:b∉ex):∃d,h1.get? b=some {ob with slots:=d}:=by
 by_cases a:b∈fs
 .exact u.slot b ob q n a c
 .exact⟨ob.slots,u.keep b ob q n a c⟩
def Un.kept(k:∀b u,h.get? b=some u->h'.get? b=some u):Un fs ex H H h h':=
 ⟨λb a q j j j=>k b a q,λb a q j j j=>⟨a.slots,k b a q⟩,λj j j n j=>n,λb a q j=>⟨a,k b a q⟩,λj j q=>q,λj j j q=>q,λj c q=>⟨#[],by rw[q];simp⟩⟩
def Un.refl:Un fs ex H H h h:=Un.kept λj j q=>q
def Un.laid(k:∀b u,h.get? b=some u->h'.get? b=some u)(d:h.objs.size<=a)(c:H a=none):Un fs ex H (upd H a o) h h' where
 keep:=λb u q j j j=>k b u q
 slot:=λb u q j j j=>⟨u.slots,k b u q⟩
 free:=λb u q n j=>by rw[jg (vE (Nat.lt_of_lt_of_le (vI q) d))];exact n
 there:=λb u q j=>⟨u,k b u q⟩
 eJ:=λb e q=>by rw[jg (je q c)];exact q
 gS:=λb u e q=>by rw[jg (je q c)];exact q
 iS:=λb f q=>⟨#[],by rw[jg (je q c),q];simp⟩
def Un.write(c:sL (H x))(m:e=x\/H e=some (.own x))(k:∀b u,b≠e->h.get? b=some u->h'.get? b=some u)(d:∃u,h'.get? e=some u):Un fs ex H (upd H x o) h h':=by
 have i:∀b,H b=none->b≠x:=λb n z=>by subst z;rw[n]at c;exact c
 have g:∀b,H b=none->b≠e:=λb n z=>by
  lia
 have f:∀b u,H b=some u->¬sL (some u)->b≠x:=λb u q j z=>by subst z;rw[q]at c;exact j c
 refine⟨λb u q n Z Z=>k b u (g b n) q,λb u q n Z Z=>⟨u.slots,k b u (g b n) q⟩,λb u q n Z=>by rw[jg (i b n)];exact n,λb u q Z=>?_,
  λb l q=>by rw[jg (f b _ q λz=>z)];exact q,λb u l q=>by rw[jg (f b _ q λz=>z)];exact q,λb p q=>⟨#[],by rw[jg (f b _ q λz=>z),q];simp⟩⟩
 by_cases a:b=e
 .subst a;exact d
 .exact⟨u,k b u a q⟩
end
noncomputable def uZ(h:Heap)(H:Hp):L7:=(List.range h.objs.size).filter λa=>(H a).isSome
noncomputable def lB(h:Heap)(H:Hp):Heap:=PySem.W.hideAll h (uZ h H)
def GG(h:Heap)(H:Hp):(lB h H).objs.size=h.objs.size:=PySem.W.hideAll_size _ _
def HL{H:Hp}(e:h.get? b=some o)(n:H b=none):(lB h H).get? b=some o:=
 PySem.W.hideAll_get _ e λa=>by
  have q:(H b).isSome=true:=(vP.mp a).2;rw[n]at q;simp at q
def LP{H:Hp}(e:(lB h H).get? b=some o):h.get? b=some o/\H b=none:=by
 have a:h.get? b=some o:=PySem.W.of_hideAll (uZ h H) e;refine⟨a,?_⟩;cases q:H b with
 | none=>rfl
 | some x=>
  have c:b∈uZ h H:=vP.mpr ⟨v7.mpr (vI a),by simp[q]⟩;have z:(lB h H).get? b=none:=PySem.W.hideAll_none (uZ h H) c;rw[z]at e;cases e
structure Mod(K:cG)(mg:Nw)(base:Heap):Prop where
 pG:K.In base
 glob:base.Ns mainGlobals mg
 blt:∃mb,base.Ns builtinsNs mb/\∀x:Str,x≠"__name__"->mb x=bootBuiltins x
 nolimit:base.NoLimit
structure Cx where
 prog:Program
 w:World
 K:cG
 mg:Str->Option Value
 base:Heap
 A:Around
 N:L8
 s₀:Shared
 H₀:Hp
 env:Env
 outer:List Env
 stack:List Env
 ex:L7
 fn:Str->Bool
 calm:Bool
 pn:List (Addr×Obj)
 xe:Nz
noncomputable def fz(l:Nr):L7:=l.filterMap (·.frame)
noncomputable abbrev Cx.fs(X:Cx):L7:=fz X.outer
def sQ(sc:Scope)(x:Str):Prop:=sc.names.lookup x=some .local\/sc.names.lookup x=some .cell\/sc.names.lookup x=some .free
def Loc(sc:Scope)(x:Str):Prop:=sc.names.lookup x=some .local\/sc.names.lookup x=some .cell
def Look(env:Env)(h:Heap)(m:Nw)(x:Str)(u:Value):Prop:=
 (env.kindOf x=some .local/\m x=some u)\/((env.kindOf x=some .cell\/env.kindOf x=some .free)/\∃c,env.cells.lookup x=some c/\h.IsCell c (some u))
structure Cx.Ok(X:Cx):Prop where
 mod:Mod X.K X.mg X.base
 kind:X.env.scope.kind = .function
 glob:X.env.globals=mainGlobals
 blt:X.env.builtins=builtinsNs
 above:X.s₀.heap.objs.size<=X.env.locals
 inj:∀x y c,X.env.cells.lookup x=some c->X.env.cells.lookup y=some c->x=y
 has:∀x,(X.env.kindOf x=some .cell\/X.env.kindOf x=some .free)->∃c,X.env.cells.lookup x=some c
 rx:∀x c,X.fn x=true->X.env.cells.lookup x=some c->X.s₀.heap.objs.size<=c
 hd:X.calm=true->X.A.handled=none
 frames:X.A.frames=some X.stack
 md:X.stack=X.outer\/(X.stack=X.env::X.outer/\X.env.frame=some X.env.locals)
 uG:∀b∈X.ex,b≠X.env.locals/\∀x c,X.env.cells.lookup x=some c->c≠b
 bs:∀b o,X.base.get? b=some o->X.s₀.heap.get? b=some o/\X.H₀ b=none
 nJ:X.base.objs.size<=X.s₀.heap.objs.size
 my:∀b o,X.base.get? b=some o->b∉X.ex
 mV:∀b∈X.ex,b∉X.fs
 gE:X.s₀.heap.FunFrames X.base X.outer
 oJ:∀b∈X.fs,X.H₀ b=none
structure Inv(X:Cx)(pins:Ny)(σ:List N3)(H:Hp)(s:Shared):Prop where
 ok:X.Ok
 os:s.os=X.s₀.os
 bare:AllBare s.gens
 base:Un X.fs X.ex X.H₀ H X.s₀.heap s.heap
 loc:∃m,s.heap.Ns X.env.locals m/\∀(i:Nat) (x:Str) (v:V),X.N[i]?=some x->σ[i]?=some (some v)->sQ X.env.scope x->∃u,RelV v u/\Look X.env s.heap m x u
 cell:∀x c,X.env.cells.lookup x=some c->∃v,s.heap.IsCell c v
 free:H X.env.locals=none
 dW:∀x c,X.env.cells.lookup x=some c->H c=none
 pin:∀p∈X.pn++pins,s.heap.get? p.1=some p.2/\H p.1=none/\p.1≠X.env.locals/\p.1∉X.fs/\∀v,p.2.data≠.cell v
 cL:fy X.prog X.w H s.heap
 len:⇑σ=X.N.length
section
variable{X:Cx}{pins:Ny}{σ:List N3}{H H':Hp}{s:Shared}{h':Heap}
def Cx.Ok.Bo(c:X.Ok)(e:X.base.get? b=some o):b∉X.fs:=λa=>by
 have:=(c.gE.mem a).1;rw[e]at this;cases this
def Inv.bs(I:Inv X pins σ H s):∀b o,X.base.get? b=some o->s.heap.get? b=some o/\H b=none:=λb o e=>
 ⟨I.base.keep b o (I.ok.bs b o e).1 (I.ok.bs b o e).2 (I.ok.Bo e) (I.ok.my b o e),I.base.free b o (I.ok.bs b o e).1 (I.ok.bs b o e).2 (I.ok.my b o e)⟩
def Inv.bk(I:Inv X pins σ H s):∀b o,X.base.get? b=some o->s.heap.get? b=some o:=λb o e=>(I.bs b o e).1
def Inv.mod(I:Inv X pins σ H s):Mod X.K X.mg X.base:=I.ok.mod
def Inv.fH(I:Inv X pins σ H s):X.K.In s.heap:=I.ok.mod.pG.keeps I.bk
def Inv.lt(I:Inv X pins σ H s):X.env.locals<s.heap.objs.size:=let ⟨_,hn,_⟩:=I.loc;hn.lt
def Inv.sz(I:Inv X pins σ H s):X.s₀.heap.objs.size<=s.heap.objs.size:=vW I.ok.above (vY I.lt)
def Inv.Bp(I:Inv X pins σ H s)(h:s.heap.objs.size<=a):a∉X.fs:=λb=>by
 let⟨j,o,c,j⟩:=I.ok.gE.mem b;exact ub (Nat.lt_of_lt_of_le (vI c) (vW I.sz h)) (Nat.lt_irrefl _)
def Inv.sT(I:Inv X pins σ H s):∀x c,X.env.cells.lookup x=some c->c≠X.env.locals:=λx c e z=>by
 let⟨v,o,h,g⟩:=I.cell x c e;let⟨m,⟨i,f,d,b,a,j⟩,j⟩:=I.loc
 lia
def Inv.gE(I:Inv X pins σ H s):s.heap.FunFrames X.base X.outer:=by
 have a:∀(l:Nr),(∀b∈fz l,b∈X.fs)->X.s₀.heap.FunFrames X.base l->s.heap.FunFrames X.base l:=by
  intro l
  induction l with
  | nil=>intro Z Z;trivial
  | cons env r ih=>
   intro g j;let⟨i,⟨L,o,f,k,m,h⟩,n⟩:=j;have c:L∈X.fs:=g L (by unfold fz;simp_all);let⟨p,e⟩:=I.base.slot L o m (I.ok.oJ L c) c λz=>I.ok.mV L z c
   exact⟨i,⟨L,_,f,k,e,h⟩,ih (λb d=>g b (by unfold fz;rw[filterMap_cons,f];exact vp _ d)) n⟩
 exact a X.outer (λZ d=>d) I.ok.gE
def Inv.stack(I:Inv X pins σ H s):s.heap.FunFrames X.base X.stack:=by
 rcases I.ok.md with e | ⟨e,a⟩
 .rw[e];exact I.gE
 .rw[e];let⟨m,b,j⟩:=I.loc;refine .cons (by rw[I.ok.kind];decide) a b ?_ I.gE;exact Heap.get?_none_of_le (vW I.ok.nJ I.ok.above)
def Inv.iR(I:Inv X pins σ H s):∀b∈fz X.stack,b∈X.env.locals::X.fs:=λb a=>by
 rcases I.ok.md with e | ⟨e,c⟩
 .simp_all
 .rw[e]at a;unfold fz at a;rw[filterMap_cons,c]at a;exact a
def Inv.iz(I:Inv X pins σ H s):∀b∈fz X.stack,H b=none:=λb a=>by
 rcases mem_cons.mp (I.iR b a)with e | a
 .rw[e];exact I.free
 .let⟨_,o,c,_⟩:=I.ok.gE.mem a;exact I.base.free b o c (I.ok.oJ b a) λz=>I.ok.mV b z a
def Inv.step{g':Array GenState}{t':Nat}{d':Drawn}{ch:L7}(I:Inv X pins σ H s)
  (h:∀b∈ch,(b∈X.ex\/X.s₀.heap.objs.size<=b)/\b≠X.env.locals/\(∀x c,X.env.cells.lookup x=some c->c≠b)/\∀p∈X.pn++pins,p.1≠b)
  (j:∀b o,b≠X.env.locals->b∉X.fs->b∉ch->s.heap.get? b=some o->H b=none->h'.get? b=some o)
  (A:∀b o,b≠X.env.locals->b∈X.fs->b∉ch->s.heap.get? b=some o->H b=none->∃N,h'.get? b=some {o with slots:=N}) (f:∀b o,b∉ch->s.heap.get? b=some o->H b=none->H' b=none)
  (C:∀b o,b∉ch->s.heap.get? b=some o->∃o',h'.get? b=some o')
  (K:∀b xs,H b=some (.tup xs)->H' b=some (.tup xs)) (F:∀b o u,H b=some (.lZ o u)->H' b=some (.lZ o u)) (J:∀b ps,H b=some (.oX ps)->∃more,H' b=some (.oX (ps++more)))
  (ns:∀m,s.heap.Ns X.env.locals m->h'.Ns X.env.locals m) (M:fy X.prog X.w H' h') (U:AllBare g') :
  Inv X pins σ H' {s with heap:=h',gens:=g',drawn:=d',toks:=t'}:=by
 have G:∀b o,X.s₀.heap.get? b=some o->b≠X.env.locals:=λb o e=>vE (Nat.lt_of_lt_of_le (vI e) I.ok.above)
 have y:∀b o,X.s₀.heap.get? b=some o->b∉X.ex->b∉ch:=λb o e a B=>by
  rcases(h b B).1 with z | z
  .exact a z
  .exact ub (Nat.lt_of_lt_of_le (vI e) z) (Nat.lt_irrefl _)
 have g:∀x c,X.env.cells.lookup x=some c->∀v,s.heap.IsCell c v->h'.IsCell c v:=λx c e v ⟨o,D,L⟩=>by
  have t:c∉ch:=λz=>(h c z).2.2.1 x c e rfl
  by_cases P:c∈X.fs
  .let⟨N,q⟩:=A c o (I.sT x c e) P t D (I.dW x c e);exact⟨_,q,L⟩
  .exact⟨o,j c o (I.sT x c e) P t D (I.dW x c e),L⟩
 refine⟨I.ok,I.os,U,⟨λb o e n B a=>?_,λb o e n B a=>?_,λb o e n a=>?_,λb o e a=>?_,λb xs e=>K b xs (I.base.eJ b xs e),λb o xs e=>F b o xs (I.base.gS b o xs e),λb ps e=>?_⟩,?_,λx c e=>?_,?_,λx c e=>?_,λp Q=>?_,M,I.len⟩
 .exact j b o (G b o e) B (y b o e a) (I.base.keep b o e n B a) (I.base.free b o e n a)
 .let⟨N,w⟩:=I.base.slot b o e n B a;let⟨O,E⟩:=A b _ (G b o e) B (y b o e a) w (I.base.free b o e n a);exact⟨O,E⟩
 .let⟨o',w⟩:=I.base.there b o e a;exact f b o' (y b o e a) w (I.base.free b o e n a)
 .let⟨o',w⟩:=I.base.there b o e a;exact C b o' (y b o e a) w
 .let⟨Z,w⟩:=I.base.iS b ps e;let⟨m2,E⟩:=J b _ w;exact⟨Z++m2,by rw[E,Array.append_assoc]⟩
 .let⟨m,Y,W⟩:=I.loc;refine⟨m,ns m Y,λi x v w E T=>?_⟩;let⟨u,r,l⟩:=W i x v w E T;refine⟨u,r,?_⟩;rcases l with l | ⟨k,c,e,z⟩
  .exact .inl l
  .exact .inr ⟨k,c,e,g x c e _ z⟩
 .let⟨v,z⟩:=I.cell x c e;exact⟨v,g x c e v z⟩
 .let⟨m,⟨o,_,_,D,_⟩,_⟩:=I.loc;exact f _ o (λz=>(h _ z).2.1 rfl) D I.free
 .let⟨v,o,D,L⟩:=I.cell x c e;exact f c o (λz=>(h c z).2.2.1 x c e rfl) D (I.dW x c e)
 .let⟨e,n,R,S,d⟩:=I.pin p Q;have t:p.1∉ch:=λz=>(h p.1 z).2.2.2 p Q rfl
  exact⟨j p.1 p.2 R S t e n,f p.1 p.2 t e n,R,S,d⟩
def Inv.un{t':Nat}(I:Inv X pins σ H s)(u:Un X.fs [] H H' s.heap h')(g:fy X.prog X.w H' h'):Inv X pins σ H' {s with heap:=h',toks:=t'}:=by
 let⟨m,⟨o,p,l,h,r⟩,Z⟩:=id I.loc;let⟨v,i⟩:=u.any h I.free (by simp);exact I.step (g':=s.gens) (d':=s.drawn) (ch:=[]) (λZ z=>nomatch z) (λb o Z f Z e n=>u.keep b o e n f (by simp)) (λb o Z f Z e n=>u.slot b o e n f (by simp)) (λb o Z e n=>u.free b o e n (by simp)) (λb o Z e=>u.there b o e (by simp)) u.eJ u.gS u.iS (λq j=>by
  let⟨t,d,c,a,k⟩:=j;rw[h]at a;cases a;exact⟨_,d,c,i,k⟩) g I.bare
def Inv.call{g':Array GenState}{t':Nat}{d':Drawn}{ch:L7}(I:Inv X pins σ H s)(u:Un (fz X.stack) ch H H' s.heap h')(j:fy X.prog X.w H' h')(q:AllBare g')
  (d:∀b∈ch,(b∈X.ex\/X.s₀.heap.objs.size<=b)/\b≠X.env.locals/\(∀x c,X.env.cells.lookup x=some c->c≠b)/\∀p∈X.pn++pins,p.1≠b) :
  Inv X pins σ H' {s with heap:=h',gens:=g',drawn:=d',toks:=t'}:=by
 let⟨m,⟨o,y,w,k,r⟩,Z⟩:=id I.loc;let⟨C,i⟩:=u.any k I.free λz=>(d _ z).2.1 rfl
 exact I.step (ch:=ch) d (λb o i l a e n=>u.keep b o e n (λz=>(mem_cons.mp (I.iR b z)).elim i l) a) (λb o Z Z a e n=>u.any e n a) (λb o a e n=>u.free b o e n a) (λb o a e=>u.there b o e a) u.eJ u.gS u.iS (λA t=>by
  let⟨B,h,g,f,v⟩:=t;rw[k]at f;cases f;exact⟨_,h,g,i,v⟩) j q
def Inv.turned{t':Nat}{it:Addr}(I:Inv X pins σ H s)(k:∀b o,b≠it->s.heap.get? b=some o->h'.get? b=some o)(y:H it=none)(f:it≠X.env.locals)
  (i:it∈X.ex\/X.s₀.heap.objs.size<=it) (j:∀x c,X.env.cells.lookup x=some c->c≠it) (l:∀p∈X.pn++pins,p.1≠it):Inv X pins σ H {s with heap:=h',toks:=t'}:=by
 have d:∀b u,H b=some u->b≠it:=λb u e z=>by rw[z,y]at e;cases e
 refine I.step (g':=s.gens) (d':=s.drawn) (ch:=[it]) (λb t=>?_) (λb o Z Z a e Z=>k b o (λz=>a (by simp[z])) e) (λb o Z Z a e Z=>⟨o.slots,k b o (λz=>a (by simp[z])) e⟩) (λZ Z Z Z n=>n)
  (λb o a e=>⟨o,k b o (λz=>a (by simp[z])) e⟩) (λZ Z e=>e) (λZ Z Z e=>e) (λb B e=>⟨#[],by rw[e];simp⟩) (λm w=>?_) (λb u e=>?_) I.bare
 .have e:b=it:=by simpa using t
  subst e;exact⟨i,f,j,l⟩
 .let⟨o,h,g,A,r⟩:=w;exact⟨o,h,g,k _ o (Ne.symm f) A,r⟩
 .refine(I.cL b u e).iQ (λc v a q=>k c v ?_ q) (λZ q=>q) λZ Z q=>q
  rcases a with z | z
  .rw[z];exact d b u e
  .exact d c _ z
def Inv.tok(I:Inv X pins σ H s)(t:Nat):Inv X pins σ H {s with toks:=t}:=I.un (h':=s.heap) (t':=t) Un.refl I.cL
def Inv.kept(I:Inv X pins σ H s)(k:∀b u,s.heap.get? b=some u->h'.get? b=some u):Inv X pins σ H {s with heap:=h',toks:=t'}:=I.un (Un.kept k) (I.cL.kept k)
def Inv.laid(I:Inv X pins σ H s)(k:∀b u,s.heap.get? b=some u->h'.get? b=some u)(c:s.heap.objs.size<=a)(d:cD X.prog X.w (upd H a o) h' a o) :
  Inv X pins σ (upd H a o) {s with heap:=h',toks:=t'}:=I.un (Un.laid k c (I.cL.fresh c)) (I.cL.laid k c d)
def Inv.write(I:Inv X pins σ H s)(f:sL (H x))(d:e=x\/H e=some (.own x))(k:∀b u,b≠e->s.heap.get? b=some u->h'.get? b=some u)(a:∃u,h'.get? e=some u)
  (c:cD X.prog X.w (upd H x o) h' x o):Inv X pins σ (upd H x o) {s with heap:=h',toks:=t'}:=I.un (Un.write f d k a) (I.cL.write f d k a c)
def Inv.weak(I:Inv X pins σ H s)(d:S'.length=⇑σ)(w:∀(i:Nat) v,S'[i]?=some (some v)->σ[i]?=some (some v)):Inv X pins S' H s:=
 ⟨I.ok,I.os,I.bare,I.base,let ⟨m,hn,hl'⟩:=I.loc;⟨m,hn,λi x v a b c=>hl' i x v a (w i v b) c⟩,I.cell,I.free,I.dW,I.pin,I.cL,d.trans I.len⟩
def Inv.pins_of(I:Inv X pins σ H s)(h:∀p∈pins',s.heap.get? p.1=some p.2/\H p.1=none/\p.1≠X.env.locals/\p.1∉X.fs/\∀v,p.2.data≠.cell v):Inv X pins' σ H s:=
 ⟨I.ok,I.os,I.bare,I.base,I.loc,I.cell,I.free,I.dW,λp a=>(vh.mp a).elim (λz=>I.pin p (mem_append_left _ z)) (h p),I.cL,I.len⟩
def W7{N:L8}(e:N.Nodup){i j:Nat}{x:Str}(a:N[i]?=some x)(b:N[j]?=some x):i=j:=by
 let⟨f,c⟩:=vx.mp a;let⟨g,d⟩:=vx.mp b;exact(List.getElem_inj e).mp (c.trans d.symm)
def XJ{M:Model}{A:Around}{E:Nz}{i:Nat}{x:Str}{v:V}{u:Value}{Q:Unit->Shared->Prop}(I:Inv X pins σ H s)(hN:X.N.Nodup)(hi:X.N[i]?=some x)(t:Loc X.env.scope x)(r:RelV v u)
  (h:∀s',Inv X pins (σ.set i (some v)) H s'->(∃a,Heap.SameBut a s.heap s'.heap/\(a=X.env.locals\/X.env.cells.lookup x=some a))->Q () s') (hf:X.fn x=true\/X.env.scope.names.lookup x=some .local:=by and_intros):wpAny M A (storeName X.env x u) Q E s:=by
 let⟨m,hn,hl⟩:=id I.loc;have P:(X.env.scope.kind == .class||(X.env.scope.kind == .module&&X.env.locals != X.env.globals))=false:=by rw[I.ok.kind];rfl
 have C:i<⇑σ:=by rw[I.len];exact(vx.mp hi).1
 have D:=I.sT;have l:∀{a:Addr} {K:Heap},(∃o,s.heap.get? a=some o/\H a=none)->Heap.SameBut a s.heap K->fy X.prog X.w H K:=λ{a K} ha f b ob e=>by
  let⟨_,_,Z⟩:=ha;refine(I.cL b ob e).iQ (λc W w q=>(f.2 c ?_).trans q) (λ_ q=>q) λ_ _ q=>q
  lia
 rcases t with L | L
 .refine wpAny_storeName_local L hn (λK a0 f=>?_) P;let⟨oL,_,_,a1,_⟩:=id hn;refine h _ ⟨I.ok,I.os,I.bare,⟨λb o e n F t=>?_,λb o e n F t=>?_,I.base.free,λb o e t=>?_,I.base.eJ,I.base.gS,I.base.iS⟩,⟨_,a0,λj y v' g B Y=>?_⟩,λy c e=>?_,I.free,I.dW,λp hp=>?_,l ⟨oL,a1,I.free⟩ f,#v[I.len]⟩ ⟨_,f,.inl rfl⟩
  .exact(f.2 b (vE (Nat.lt_of_lt_of_le (vI e) I.ok.above))).trans (I.base.keep b o e n F t)
  .let⟨sl,g⟩:=I.base.slot b o e n F t;exact⟨sl,(f.2 b (vE (Nat.lt_of_lt_of_le (vI e) I.ok.above))).trans g⟩
  .let⟨o',g⟩:=I.base.there b o e t;exact⟨o',(f.2 b (vE (Nat.lt_of_lt_of_le (vI e) I.ok.above))).trans g⟩
  .by_cases J:j=i
   .subst J;rw[hi]at g;cases g;rw[List.getElem?_set_self C]at B;cases B;exact⟨u,r,.inl ⟨L,by simp⟩⟩
   .rw[List.getElem?_set_ne (Ne.symm J)]at B;let⟨u',r',q⟩:=hl j y v' g B Y;refine⟨u',r',?_⟩;rcases q with⟨k,e⟩ | ⟨k,c,e,z⟩
    .refine .inl ⟨k,?_⟩;have:y≠x:=λe=>J (W7 hN g (e▸hi))
     simp[this,e]
    .exact .inr ⟨k,c,e,z.sameBut f (D y c e)⟩
  .let⟨W,z⟩:=I.cell y c e;exact⟨W,z.sameBut f (D y c e)⟩
  .let⟨e,n,U,nf,d⟩:=I.pin p hp;exact⟨(f.2 p.1 U).trans e,n,U,nf,d⟩
 .have G:X.fn x=true:=by
   lia
  let⟨c,w⟩:=I.ok.has x (.inl L);let⟨W,z⟩:=I.cell x c w;refine wpAny_storeName_cell I.ok.kind L w z (λK N f=>?_);let⟨oc,R,S⟩:=id z;refine h {s with heap:=K} ⟨I.ok,I.os,I.bare,⟨λb o e n F t=>?_,λb o e n F t=>?_,I.base.free,λb o e t=>?_,I.base.eJ,I.base.gS,I.base.iS⟩,⟨m,hn.sameBut f (Ne.symm (D x c w)),λj y v' g B Y=>?_⟩,λy T e=>?_,I.free,I.dW,λp hp=>?_,l ⟨oc,R,I.dW x c w⟩ f,#v[I.len]⟩ ⟨c,f,.inr w⟩
  .exact(f.2 b (vE (Nat.lt_of_lt_of_le (vI e) (I.ok.rx x c G w)))).trans (I.base.keep b o e n F t)
  .let⟨sl,g⟩:=I.base.slot b o e n F t;exact⟨sl,(f.2 b (vE (Nat.lt_of_lt_of_le (vI e) (I.ok.rx x c G w)))).trans g⟩
  .let⟨o',g⟩:=I.base.there b o e t;exact⟨o',(f.2 b (vE (Nat.lt_of_lt_of_le (vI e) (I.ok.rx x c G w)))).trans g⟩
  .by_cases J:j=i
   .subst J;rw[hi]at g;cases g;rw[List.getElem?_set_self C]at B;cases B;exact⟨u,r,.inr ⟨.inl L,c,w,N⟩⟩
   .rw[List.getElem?_set_ne (Ne.symm J)]at B;let⟨u',r',q⟩:=hl j y v' g B Y;refine⟨u',r',?_⟩;rcases q with q | ⟨k,T,e,z'⟩
    .exact .inl q
    .refine .inr ⟨k,T,e,z'.sameBut f ?_⟩;rintro rfl;exact J (W7 hN g (I.ok.inj _ _ _ e w▸hi))
  .by_cases O:T=c
   .subst O;exact⟨_,N⟩
   .let⟨w2,z2⟩:=I.cell y T e;exact⟨w2,z2.sameBut f O⟩
  .let⟨e,n,U,nf,d⟩:=I.pin p hp;refine⟨(f.2 p.1 ?_).trans e,n,U,nf,d⟩;intro q;rw[q,R]at e;have q':oc=p.2:=vL e;exact d W (by rw[<-q'];exact S)
def KF{E:Nz}{Q:Unit->Shared->Prop}(I:Inv X pins σ H s)(b:X.N.Nodup)(hi:X.N[i]?=some x)(d:Loc X.env.scope x)(r:RelV v u)
  (h:∀s',Inv X pins (σ.set i (some v)) H s'->Q () s') (c:X.fn x=true\/X.env.scope.names.lookup x=some .local:=by and_intros):wpAny M A (storeName X.env x u) Q E s:=
 XJ I b hi d r (λs' a j=>h s' a) c
def Inv.pk(I:Inv X pins σ H s)(g:s'.os=s.os)(u:Un (fz X.stack) ch H H' s.heap s'.heap)(d:fy X.prog X.w H' s'.heap)(f:AllBare s'.gens)
  (a:∀b∈ch,(b∈X.ex\/X.s₀.heap.objs.size<=b)/\b≠X.env.locals/\(∀x c,X.env.cells.lookup x=some c->c≠b)/\∀p∈X.pn++pins,p.1≠b):Inv X pins σ H' s':=by
 let⟨i,g',d',t',h⟩:=s';have e:h=s.os:=g;subst e;exact I.call (g':=g') (t':=t') (d':=d') u d f a
end
noncomputable abbrev XK:=Value->Option Addr->Hp->Prop
noncomputable abbrev St:=List N3
noncomputable abbrev VK:=V->Hp->Prop
noncomputable abbrev TE:=St->Hp->VK->Prop
noncomputable abbrev TT:=St->Hp->(Bool->Hp->Prop)->Prop
noncomputable abbrev TA:=St->Hp->(N2->Hp->Prop)->Prop
structure Ends where
 nx:St->Hp->Prop
 rt:VK
 bk:St->Hp->Prop:=λ_ _=>False
 ct:St->Hp->Prop:=λ_ _=>False
noncomputable abbrev TS:=Ends->St->Hp->Prop
def EP(X:Cx)(pins:Ny)(σ:St)(Q:VK)(u:Value)(s':Shared):Prop:=∃v H',Inv X pins σ H' s'/\RelV v u/\Q v H'
def TP(X:Cx)(pins:Ny)(σ:St)(Q:Bool->Hp->Prop)(b:Bool)(s':Shared):Prop:=∃H',Inv X pins σ H' s'/\Q b H'
def AP(X:Cx)(pins:Ny)(σ:St)(Q:N2->Hp->Prop)(us:L9)(s':Shared):Prop:=∃vs H',Inv X pins σ H' s'/\Vals vs us/\Q vs H'
def SP(X:Cx)(pins:Ny)(D:Ends)(f:Flow)(s':Shared):Prop:=
 match f with
 | .next=>∃S' H',Inv X pins S' H' s'/\D.nx S' H'
 | .brk=>∃S' H',Inv X pins S' H' s'/\D.bk S' H'
 | .cont=>∃S' H',Inv X pins S' H' s'/\D.ct S' H'
 | .ret u=>∃v S' H',Inv X pins S' H' s'/\RelV v u/\D.rt v H'
def PE(X:Cx)(e:Expr)(t:TE):Prop:=
 ∀(pins:Ny) (s:Shared) (σ:St) (H:Hp) (Q:VK),Inv X pins σ H s->t σ H Q->wpAny (model X.prog X.w) X.A (eval e X.env) (EP X pins σ Q) X.xe s
def PT(X:Cx)(e:Expr)(t:TT):Prop:=
 ∀(pins:Ny) (s:Shared) (σ:St) (H:Hp) (Q:Bool->Hp->Prop),Inv X pins σ H s->t σ H Q->wpAny (model X.prog X.w) X.A (isTrue e X.env (eval e X.env)) (TP X pins σ Q) X.xe s
def PW(X:Cx)(e:Expr)(t:TT):Prop:=
 ∀(whole:Sem Value) (pins:Ny) (s:Shared) (σ:St) (H:Hp) (Q:Bool->Hp->Prop),Inv X pins σ H s->t σ H Q->wpAny (model X.prog X.w) X.A (isTrue e X.env whole) (TP X pins σ Q) X.xe s
def PW.pt(h:PW X e t):PT X e t:=h _
def PA(X:Cx)(es:Nt)(t:TA):Prop:=
 ∀(pos:Pos) (pins:Ny) (s:Shared) (σ:St) (H:Hp) (Q:N2->Hp->Prop),Inv X pins σ H s->t σ H Q->wpAny (model X.prog X.w) X.A (spliced (backTo pos (starEach es X.env))) (AP X pins σ Q) X.xe s
def PS(X:Cx)(st:Stmt)(t:TS):Prop:=
 ∀(pins:Ny) (s:Shared) (σ:St) (H:Hp) (D:Ends),Inv X pins σ H s->t D σ H->wpAny (model X.prog X.w) X.A (exec st X.env) (SP X pins D) X.xe s
def i5(X:Cx)(st:List Stmt)(t:TS):Prop:=
 ∀(pins:Ny) (s:Shared) (σ:St) (H:Hp) (D:Ends),Inv X pins σ H s->t D σ H->wpAny (model X.prog X.w) X.A (execs st X.env) (SP X pins D) X.xe s
def cN{c:Type}{t:Sem c}{Q b:c->Shared->Prop}{M:Model}{A:Around}{E:Nz}{s:Shared}(h:wpAny M A t Q E s)(d:∀a s,Q a s->b a s):wpAny M A t b E s:=wpAny_mono h d λj j x=>x
section
variable{X:Cx}
def fq(i:Nat):TE:=λσ H Q=>∃v,σ[i]?=some (some v)/\Q v H
def tC(v:V):TE:=λj H Q=>Q v H
def Mw(n:X.N[i]?=some x)(t:sQ X.env.scope x)(j:(x==("__debug__" : Str))=false:=by decide)(g:(x==("__classdict__" : Str))=false:=by decide):PE X (.Name x pos) (fq i):=by
 intro f s w H Q I h;let⟨v,e,h⟩:=h;let⟨m,q,o⟩:=I.loc;let⟨u,r,l⟩:=o i x v n e t;have b:EP X f w Q u s:=⟨v,H,I,r,h⟩
 rcases l with⟨d,p⟩ | ⟨d,c,k,a⟩
 .exact wpAny_Name (wpAny_loadName_local I.ok.kind d q p b) j
 .rcases d with d | d
  .exact wpAny_Name (wpAny_loadName_cell I.ok.kind d k a b) j
  .exact wpAny_Name (wpAny_loadName_free I.ok.kind d k a b g) j
def jd{i j pos}:PE X (.Constant (.int i) j pos) (tC (.int i)):=λZ Z Z H Z I h=>wpAny_Constant_int ⟨.int i,H,I.tok _,⟨_,rfl⟩,h⟩
def YI{b j pos}:PE X (.Constant (.bool b) j pos) (tC (.bl b)):=λZ Z Z H Z I h=>Constant_bool ⟨.bl b,H,I,rfl,h⟩
def wB{j pos}:PE X (.Constant .none j pos) (tC .de):=λZ Z Z H Z I h=>Constant_none ⟨.de,H,I,rfl,h⟩
def jI{x j pos}:PE X (.Constant (.str x) j pos) (tC (.str x)):=λZ Z Z H Z I h=>Calls.Constant_str ⟨.str x,H,I.tok _,⟨_,rfl⟩,h⟩
def Gl(X:Cx)(x:Str):Prop:=X.env.kindOf x=some .globalImplicit
def ZP{E:Nz}{d:St}{H:Hp}{Q:Nz}(I:Inv X pins d H s)(b:Gl X x)(c:X.mg x=some u)(h:Q u s)
  (a:(x==("__debug__" : Str))=false:=by decide):wpAny (model X.prog X.w) X.A (eval (.Name x pos) X.env) Q E s:=
 Calls.Name_function_global I.ok.kind b (Calls.loadGlobal_global (by rw[I.ok.glob];exact I.mod.glob.keeps I.bk) c h) a
def Z2{E:Nz}{i:St}{H:Hp}{Q:Nz}(I:Inv X pins i H s)(d:Gl X x)(e:X.mg x=none)(g:bootBuiltins x=some u)(h:Q u s)
  (f:x≠"__name__":=by decide) (c:(x==("__debug__" : Str))=false:=by decide):wpAny (model X.prog X.w) X.A (eval (.Name x pos) X.env) Q E s:=by
 let⟨j,a,b⟩:=I.mod.blt;exact Calls.Name_function_global I.ok.kind d (Calls.loadGlobal_builtin (by rw[I.ok.glob];exact I.mod.glob.keeps I.bk) e (by rw[I.ok.blt];exact a.keeps I.bk) ((b x f).trans g) h) c
def qy(b:Gl X x)(c:X.mg x=some u)(r:RelV v u)(a:(x==("__debug__" : Str))=false:=by decide):PE X (.Name x pos) (tC v):=
 λj j j H j I h=>ZP I b c ⟨v,H,I,r,h⟩ a
def DH(b:Gl X x)(c:X.mg x=none)(e:bootBuiltins x=some u)(r:RelV v u)(d:x≠"__name__":=by decide)(a:(x==("__debug__" : Str))=false:=by decide):PE X (.Name x pos) (tC v):=
 λj j j H j I h=>Z2 I b c e ⟨v,H,I,r,h⟩ d a
variable{a b:Expr}{ta tb:TE}{pos:Pos}
def PC(X:Cx)(op:CmpOp)(a b:Expr)(t:TE):Prop:=
 ∀(pins:Ny) (s:Shared) (σ:St) (H:Hp) (Q:VK),Inv X pins σ H s->t σ H Q->
  wpAny (model X.prog X.w) X.A (eval a X.env) (λv s₁=>wpAny (model X.prog X.w) X.A (eval b X.env) (λu s₂=>wpAny (model X.prog X.w) X.A (compareOp op v u) (EP X pins σ Q) X.xe s₂) X.xe s₁) X.xe s
def tB(t:TE):TT:=λσ H Q=>t σ H λx H1=>∃c,x = .bl c/\Q c H1
def MC{op:CmpOp}{t:TE}(h:PC X op a b t)(f:behindInMarks op b=false:=by first | exact nobehind _ nofun nofun | rfl):PT X (.Compare a [op] [b] pos) (tB t):=by
 intro e s n H Q I k;refine wpAny_isTrue_Compare1 (cN (h e s n H _ I k) λv o f=>cN f λu p j=>cN j λc r ⟨x,g,i,m,l⟩=>?_) f;let⟨d,rfl,q⟩:=l;cases m;exact wpAny_truthy_bool ⟨g,i,q⟩
def wD{e:Expr}{t:TE}(h:PE X e t)(g:∀a,isTrue e X.env a=(do let v <-a;standAt e.pos;holding [v] (truthy v)):=by intro Z;rfl):PT X e (tB t):=by
 intro b s l H Q I i;refine isTrue_plain (cN (h b s l H _ I i) λv m z_=>?_) (g _);obtain⟨x,c,f,k,j⟩:=z_;let⟨d,rfl,q⟩:=j;cases k;exact wpAny_truthy_bool ⟨c,f,q⟩
variable{tA tB':TT}{rest:Nt}
def tR(t u:TT):TT:=λσ H Q=>t σ H λc H1=>if c=true then u σ H1 Q else Q false H1
def EW(t u:TT):TT:=λσ H Q=>t σ H λc H1=>if c=true then Q true H1 else u σ H1 Q
def tY(t:TT):TT:=λσ H Q=>t σ H λc H1=>Q (!c) H1
def Qv(d:PT X a tA):PW X (.BoolOp .And [a] pos) tA:=by
 intro i b s f H Q I h;refine isTrue_and (cN (d b s f H Q I h) λc g e=>?_);cases c with
 | true=>exact isTrue_and_nil e
 | false=>exact e
def AJ(d:PT X a tA):PW X (.BoolOp .Or [a] pos) tA:=by
 intro i b s f H Q I h;refine isTrue_or (cN (d b s f H Q I h) λc g e=>?_);cases c with
 | false=>exact isTrue_or_nil e
 | true=>exact e
def Q3(j:PT X a tA)(k:PW X (.BoolOp .And (b::rest) pos) tB'):PW X (.BoolOp .And (a::b::rest) pos) (tR tA tB'):=by
 intro m d s i H Q I h;refine isTrue_and (cN (j d s i H _ I h) λc l z_=>?_);obtain⟨e,f,g⟩:=z_;cases c with
 | true=>exact k m d l i e Q f g
 | false=>exact⟨e,f,g⟩
def Bh(j:PT X a tA)(k:PW X (.BoolOp .Or (b::rest) pos) tB'):PW X (.BoolOp .Or (a::b::rest) pos) (EW tA tB'):=by
 intro m d s i H Q I h;refine isTrue_or (cN (j d s i H _ I h) λc l z_=>?_);obtain⟨e,f,g⟩:=z_;cases c with
 | true=>exact⟨e,f,g⟩
 | false=>exact k m d l i e Q f g
def xt(e:PT X a tA):PT X (.UnaryOp .Not a pos) (tY tA):=by
 intro b s f H Q I h;exact isTrue_not (e b s f H (λc d=>Q (!c) d) I h)
def pM(ta tb:TE):TE:=λσ H Q=>ta σ H λx H1=>∃c,x = .bl c/\if c=true then tb σ H1 Q else Q (.bl false) H1
def Mv{op}(h:PE X a t):PE X (.BoolOp op [a] pos) t:=λb s d H Q I c=>BoolOp_one (h b s d H Q I c)
def Mu(j:PE X a ta)(k:PE X (.BoolOp .And (b::rest) pos) tb):PE X (.BoolOp .And (a::b::rest) pos) (pM ta tb):=by
 intro d s i H Q I h;refine BoolOp_and (cN (j d s i H _ I h) λv m z_=>?_);obtain⟨x,f,g,l,e⟩:=z_;let⟨c,rfl,e⟩:=e;cases l;refine wpAny_truthy_bool ?_;cases c with
 | true=>exact k d m i f Q g e
 | false=>exact⟨.bl false,f,g,rfl,e⟩
def EU(t:TT)(ta tb:TE):TE:=λσ H Q=>t σ H λc H1=>if c=true then ta σ H1 Q else tb σ H1 Q
def xb{c:Expr}(n:PT X c tA)(l:PE X a ta)(m:PE X b tb):PE X (.IfExp c a b pos) (EU tA ta tb):=by
 intro e s f H Q I h;refine wpAny_IfExp (cN (n e s f H _ I h) λd k z_=>?_);obtain⟨g,i,j⟩:=z_;cases d with
 | true=>exact l e k f g Q i j
 | false=>exact m e k f g Q i j
end
def cm(K:cG)(H:Hp)(a:Addr)(xs:N2):Prop:=
 Rd H a (.lst xs)\/
  ∃(o:Obj) (its:Array Value) (n:Nat),K.lookup a=some o/\o.cls = .type "list"/\o.dict=none/\o.data = .seq its n/\its.size<=sizeLine/\Vals xs its.toList
def cJ(K:cG)(H:Hp)(a:Addr)(xs:N2):Prop:=
 Rd H a (.tup xs)\/
  ∃(o:Obj) (its:Array Value) (n:Nat),K.lookup a=some o/\o.cls = .type "tuple"/\o.data = .seq its n/\its.size<=sizeLine/\Vals xs its.toList
noncomputable def vT:Value->N3
 | .none=>some .de
 | .bool b=>some (.bl b)
 | .int i _=>~~~i
 | .str x _=>some (.str x)
 | .bytes b _=>some (.mu b)
 | .float b _=>some (.pz b)
 | .ref a=>↥a
 | .type n=>some (.ty n)
 | _=>none
def RelV.abs(r:RelV x u):vT u=some x:=by
 cases x with
 | de=>cases r;rfl
 | bl _=>cases r;rfl
 | int _=>let⟨t,rfl⟩:=r;rfl
 | str _=>let⟨t,rfl⟩:=r;rfl
 | mu _=>let⟨t,rfl⟩:=r;rfl
 | pz _=>let⟨t,rfl⟩:=r;rfl
 | ref _=>cases r;rfl
 | ty _=>cases r;rfl
def RelV.inj(r:RelV x u)(q:RelV y u):x=y:=vL (r.abs.symm.trans q.abs)
def Vals.inj:∀{xs ys:N2} {us:L9},Vals xs us->Vals ys us->xs=ys:=by
 intro xs ys us h
 induction h generalizing ys with
 | nil=>intro k;cases k;rfl
 | cons r t ih=>
  intro k;cases k with
  | cons r' t'=>rw[r.inj r',ih t']
section
variable{X:Cx}{pins:Ny}{σ:St}{H:Hp}{s:Shared}{a:Addr}{xs ys:N2}
def cm.of{K:cG}(h:H a=some (.lst xs)):cm K H a xs:=.inl (.inl h)
def cJ.of{K:cG}(h:H a=some (.tup xs)):cJ K H a xs:=.inl (.inl h)
def Inv.list(I:Inv X pins σ H s)(h:cm X.K H a xs):∃b:L9,Vals xs b/\PlainL s.heap a b.toArray/\⇑xs<=sizeLine:=by
 rcases h with h | ⟨o,b,n,f,c,d,g,i,r⟩
 .let⟨z,b,n,r,e⟩:=h.ok I.cL;exact⟨b,r,⟨_,n,e,rfl,rfl,rfl⟩,z⟩
 .refine⟨b.toList,r,⟨o,n,I.fH a o f,c,d,#v[g]⟩,?_⟩;have e:=⇑r
  simp_all
def Inv.tuple(I:Inv X pins σ H s)(h:cJ X.K H a xs):∃b:L9,Vals xs b/\IsTup s.heap a b.toArray/\⇑xs<=sizeLine:=by
 rcases h with h | ⟨o,b,n,d,c,f,g,r⟩
 .let⟨z,b,r,p⟩:=h.ok I.cL;exact⟨b,r,p,z⟩
 .refine⟨b.toList,r,⟨o,I.fH a o d,c,n,#v[f]⟩,?_⟩;have e:=⇑r
  simp_all
def Inv.fI(I:Inv X pins σ H s)(h:cm X.K H a xs)(h':cm X.K H a ys):xs=ys:=by
 let⟨c,r,⟨o,n,e,Z,Z,d⟩,Z⟩:=I.list h;let⟨b,i,⟨k,j,g,Z,Z,f⟩,Z⟩:=I.list h';rw[e]at g;cases g;rw[d]at f;injection f with d1 _;have:c=b:=by simpa using congrArg Array.toList d1
 subst this;exact r.inj i
def Inv.m3(I:Inv X pins σ H s)(h:cJ X.K H a xs)(h':cJ X.K H a ys):xs=ys:=by
 let⟨c,r,⟨o,e,Z,n,d⟩,Z⟩:=I.tuple h;let⟨b,i,⟨k,g,Z,j,f⟩,Z⟩:=I.tuple h';rw[e]at g;cases g;rw[d]at f;injection f with d1 _;have:c=b:=by simpa using congrArg Array.toList d1
 subst this;exact r.inj i
end
noncomputable abbrev Cx.gj(X:Cx)(E:Nz):Cx:={X with xe:=E}
noncomputable abbrev Cx.iw(X:Cx):Cx:=X.gj λj j=>False
def Cx.Ok.gj{X:Cx}(a:X.Ok)(E:Nz):(X.gj E).Ok:=
 ⟨a.mod,a.kind,a.glob,a.blt,a.above,a.inj,a.has,a.rx,a.hd,a.frames,a.md,a.uG,a.bs,a.nJ,a.my,a.mV,a.gE,a.oJ⟩
def Cx.Ok.dj{X:Cx}{E:Nz}(a:(X.gj E).Ok):X.Ok:=
 ⟨a.mod,a.kind,a.glob,a.blt,a.above,a.inj,a.has,a.rx,a.hd,a.frames,a.md,a.uG,a.bs,a.nJ,a.my,a.mV,a.gE,a.oJ⟩
section
variable{X:Cx}{pins:Ny}{σ:St}{H:Hp}{s:Shared}{E:Nz}
def Inv.gj(I:Inv X pins σ H s)(E:Nz):Inv (X.gj E) pins σ H s:=⟨I.ok.gj E,I.os,I.bare,I.base,I.loc,I.cell,I.free,I.dW,I.pin,I.cL,I.len⟩
def Inv.dj(I:Inv (X.gj E) pins σ H s):Inv X pins σ H s:=⟨I.ok.dj,I.os,I.bare,I.base,I.loc,I.cell,I.free,I.dW,I.pin,I.cL,I.len⟩
def SP.dj(h:SP (X.gj E) pins D f s'):SP X pins D f s':=by
 cases f with
 | next=>let⟨a,b,I,q⟩:=h;exact⟨a,b,I.dj,q⟩
 | brk=>let⟨a,b,I,q⟩:=h;exact⟨a,b,I.dj,q⟩
 | cont=>let⟨a,b,I,q⟩:=h;exact⟨a,b,I.dj,q⟩
 | ret u=>let⟨v,a,b,I,r,q⟩:=h;exact⟨v,a,b,I.dj,r,q⟩
def i5.iw{st:List Stmt}{t:TS}(h:i5 X.iw st t):i5 X st t:=λa s c H D I b=>
 wpAny_mono (h a s c H D (I.gj _) b) (λj j q=>q.dj) λj j z=>False.elim z
end
section
variable{X:Cx}{st:Stmt}{rest:List Stmt}{t u:TS}{e:Expr}{te:TE}{pos:Pos}
def pS:TS:=λD σ H=>D.nx σ H
def ue(t u:TS):TS:=λD σ H=>t {D with nx:=u D} σ H
def jw:i5 X [] pS:=λj j a H j I h=>wpAny_execs_nil ⟨a,H,I,h⟩
def jb(e:PS X st t)(g:i5 X rest u):i5 X (st::rest) (ue t u):=by
 intro a s j H D I h;refine wpAny_execs_cons (cN (e a s j H {D with nx:=u D} I h) λf i q=>?_);cases f with
 | next=>
  let⟨b,c,d,q⟩:=q;exact g a i b c D d q
 | ret v=>exact q
 | brk=>exact q
 | cont=>exact q
def jf(b:PS X st t):i5 X [st] t:=by
 intro a s c H D I h;refine wpAny_execs_cons (cN (b a s c H D I h) λf d q=>?_);cases f with
 | next=>exact wpAny_execs_nil q
 | ret v=>exact q
 | brk=>exact q
 | cont=>exact q
def Inv.quiet{a:St}{H:Hp}(I:Inv X pins a H s):interactive X.env=false:=by simp[interactive,I.ok.kind]
def pQ(te:TE):TS:=λD σ H=>te σ H λj H1=>D.nx σ H1
def jV(f:PE X e te)(g:swapsWith e none pos.line X.env=pure false:=by rfl):PS X (.Expr e pos) (pQ te):=by
 intro a s b H D I h;refine wpAny_Expr_any (cN (f a s b H _ I h) λv k z_=>?_) I.quiet g;let⟨x,c,d,j,i⟩:=z_;exact⟨b,c,d,i⟩
def tZ(te:TE):TS:=λD σ H=>te σ H D.rt
def jx(f:PE X e te):PS X (.Return (some e) pos) (tZ te):=by
 intro a s b H D I h;refine wpAny_Return_some (cN (f a s b H _ I h) λv j z_=>?_);let⟨x,c,d,i,g⟩:=z_;exact⟨x,b,c,d,i,g⟩
def rQ(c:TT)(t u:TS):TS:=λD σ H=>c σ H λb H1=>if b=true then t D σ H1 else u D σ H1
def jP{c:Expr}{a b:List Stmt}{l:TT}(o:PT X c l)(m:i5 X a t)(n:i5 X b u):PS X (.If c a b pos) (rQ l t u):=by
 intro e s f H D I h;refine wpAny_If (cN (o e s f H _ I h) λd k z_=>?_);obtain⟨g,i,j⟩:=z_;cases d with
 | true=>exact m e k f g D i j
 | false=>exact n e k f g D i j
def rR:TS:=λj j j=>False
def Zu:PS X st rR:=λj j j j j j h=>h.elim
end
noncomputable abbrev TG:=V->St->Hp->(St->Hp->Prop)->Prop
noncomputable abbrev se:=N2->St->Hp->(St->Hp->Prop)->Prop
def PG(X:Cx)(target:Expr)(t:TG):Prop:=
 ∀(pins:Ny) (s:Shared) (σ:St) (H:Hp) (v:V) (u:Value) (Q:St->Hp->Prop),Inv X pins σ H s->RelV v u->t v σ H Q->
  wpAny (model X.prog X.w) X.A (assign target X.env u) (λj s'=>∃S' H',Inv X pins S' H' s'/\Q S' H') X.xe s
def uv(X:Cx)(ts:Nt)(t:se):Prop:=
 ∀(pins:Ny) (s:Shared) (σ:St) (H:Hp) (vs:N2) (us:L9) (Q:St->Hp->Prop),Inv X pins σ H s->Vals vs us->t vs σ H Q->
  wpAny (model X.prog X.w) X.A (assignInOrder ((assignEach ts X.env).map (·.2)) us) (λj s'=>∃S' H',Inv X pins S' H' s'/\Q S' H') X.xe s
noncomputable abbrev rm:=V->V->V->Hp->(Hp->Prop)->Prop
def rk(X:Cx)(t:rm):Prop:=
 ∀(pins:Ny) (s:Shared) (σ:St) (H:Hp) (o i v:V) (ov iv u:Value) (Q:Hp->Prop),Inv X pins σ H s->RelV o ov->RelV i iv->RelV v u->t o i v H Q->
  wpAny (model X.prog X.w) X.A (setItem ov iv u) (λj s'=>∃H',Inv X pins σ H' s'/\Q H') X.xe s
noncomputable abbrev uD:=V->V->Hp->VK->Prop
def BI(X:Cx)(op:Operator)(t:uD):Prop:=
 ∀(pins:Ny) (s:Shared) (σ:St) (H:Hp) (x y:V) (v u:Value) (Q:VK),Inv X pins σ H s->RelV x v->RelV y u->t x y H Q->
  wpAny (model X.prog X.w) X.A (inplaceOp op v u) (EP X pins σ Q) X.xe s
section
variable{X:Cx}{pos:Pos}
def cC(i:Nat):TG:=λv σ H Q=>Q (σ.set i (some v)) H
def ju(c:X.N.Nodup)(hi:X.N[i]?=some x)(e:Loc X.env.scope x)(d:X.fn x=true\/X.env.scope.names.lookup x=some .local:=by and_intros):PG X (.Name x pos) (cC i):=by
 intro a s g H v u Q I r h;exact wpAny_assign_Name (KF I c hi e r (λf b=>⟨_,H,b,h⟩) d)
def cW(i:Nat)(c:X.N.Nodup)(hi:X.N[i]?=some x:=by exact rfl)(e:Loc X.env.scope x:=by exact .inl rfl)(d:X.fn x=true\/X.env.scope.names.lookup x=some .local:=by and_intros):PG X (.Name x pos) (cC i):=ju (i:=i) c hi e d
def mW:se:=λvs σ H Q=>vs=[]/\Q σ H
def dX(t:TG)(u:se):se:=λvs σ H Q=>∃v r,vs=v::r/\t v σ H λS' H'=>u r S' H' Q
def Jl:uv X [] mW:=by
 intro a s b H d c Q I r h;let⟨e,h⟩:=h;subst e;cases r;exact assignInOrder_nil ⟨b,H,I,h⟩
def jB{e:Expr}{es:Nt}{t:TG}{u:se}(g:PG X e t)(i:uv X es u)
  (j:(assignEach (e::es) X.env).map (·.2)=assign e X.env::(assignEach es X.env).map (·.2):=by rfl):uv X (e::es) (dX t u):=by
 intro a s m H p n Q I r h;let⟨v,o,f,h⟩:=h;subst f;cases r with
 | cons r rr=>
  rw[j];refine assignInOrder_cons (cN (g a s m H _ _ _ I r h) λZ l z_=>?_);obtain⟨b,c,d,k⟩:=z_;exact i a l b c _ _ Q d rr k
def mX(K:cG)(n:Nat)(t:se):TG:=λv σ H Q=>∃a xs,v = .ref a/\cJ K H a xs/\⇑xs=n/\t xs σ H Q
def JG(p:X.calm=true)(h:uv X es t)
  (w:⇑(assignEach es X.env)=n:=by rfl) (d:(assignEach es X.env).findIdx? (·.1)=none:=by rfl):PG X (.Tuple es k pos) (mX X.K n t):=by
 intro c s i H v u Q I r f;let⟨a,B,l,x,q,f⟩:=f;subst l;cases r;let⟨A,g,y,C⟩:=I.tuple x;refine assign_Tuple_tuple (I.ok.hd p) y (by simp[w,<-q,⇑g]) d λm z=>?_
 have j:Inv X c i H {s with heap:=m}:=I.kept (t':=s.toks) λb o e=>z b o (vE (vI e)) e
 exact h c _ i H B _ Q j #v[g] f
def sV(to ti:TE)(t:rm):TG:=λv σ H Q=>to σ H λo H1=>ti σ H1 λi H2=>t o i v H2 λH3=>Q σ H3
def kP{o i:Expr}{e d:TE}{t:rm}(p:PE X o e)(hi:PE X i d)(q:rk X t)
  (n:∀v,assign (.Subscript o i pos) X.env v=(do
   let ov <-holding [v] (eval o X.env)
   let b <-holding [v,ov] (eval i X.env)
   standAt pos
   holding [v,ov,b] (setItem ov b v)
   release [v,ov,b] []):=by intro Z;rfl):PG X (.Subscript o i pos) (sV e d t):=by
 intro a s c H v u Q I r h;rw[n];refine ud (wpAny_holding (cN (p a s c H _ I h) λov D z_=>?_));obtain⟨x,f,k,B,w⟩:=z_;refine ud (wpAny_holding (cN (hi a D c f _ k w) λb E z_=>?_));obtain⟨y,g,l,C,z⟩:=z_;refine ud (wpAny_standAt (ud (wpAny_holding (cN (q a E c g x y v ov b u _ l B C r z) λZ F z_=>?_))));obtain⟨j,m,A⟩:=z_;exact wpAny_release ⟨c,j,m,A⟩
def nX(te:TE)(g:TG):TS:=λD σ H=>te σ H λx H1=>g x σ H1 D.nx
def yP{b e:Expr}{c:TE}{g:TG}(k:PE X e c)(l:PG X b g)(m:swapsWithSole [b] e pos.line X.env=pure false:=by rfl)(hw:swappedStores [b] e X.env=pure none:=by rfl)
  (j:(assignEach [b] X.env).map (·.2)=[assign b X.env]:=by rfl):PS X (.Assign [b] e pos) (nX c g):=by
 intro a s d H D I h;refine wpAny_Assign_stores (cN (k a s d H _ I h) λv p z_=>?_) m hw;obtain⟨x,f,i,o,n⟩:=z_;rw[j];exact cN (l a p d f x v _ i o n) λZ r q=>q
def jp{i:Nat}{x:Str}{e:Expr}{c:TE}{a:Pos}(j:X.N.Nodup)(hi:X.N[i]?=some x)(n:Loc X.env.scope x)(k:PE X e c)(m:swapsWith e (some (.Name x a)) pos.line X.env=pure false:=by rfl)(l:X.fn x=true\/X.env.scope.names.lookup x=some .local:=by and_intros) :
  PS X (.Assign [.Name x a] e pos) (nX c (cC i)):=by
 intro b s q H D I h;refine wpAny_Assign_Name (cN (k b s q H _ I h) λv r z_=>?_) m;obtain⟨y,d,f,p,o⟩:=z_;exact KF f j hi n p (λt g=>⟨_,d,g,o⟩) l
def cM(i:Nat){x:Str}{e:Expr}{c:TE}{a:Pos}(j:X.N.Nodup)(k:PE X e c)(hi:X.N[i]?=some x:=by exact rfl)(n:Loc X.env.scope x:=by exact .inl rfl)(m:swapsWith e (some (.Name x a)) pos.line X.env=pure false:=by rfl)(l:X.fn x=true\/X.env.scope.names.lookup x=some .local:=by and_intros) : PS X (.Assign [.Name x a] e pos) (nX c (cC i)):=jp (i:=i) j hi n k m l
def tS(i:Nat)(te:TE)(ti:uD):TS:=λD σ H=>∃x,σ[i]?=some (some x)/\te σ H λy H1=>ti x y H1 λz H2=>D.nx (σ.set i (some z)) H2
def MA{i:Nat}{x:Str}{e:Expr}{q:TE}{op:Operator}{t:uD}{f:Pos}(K:X.N.Nodup)(hi:X.N[i]?=some x)(n:Loc X.env.scope x)(M:PE X e q)(R:BI X op t)(N:X.fn x=true\/X.env.scope.names.lookup x=some .local:=by and_intros) :
  PS X (.AugAssign (.Name x f) op e pos) (tS i q t):=by
 intro a s A H D I h;let⟨v,J,h⟩:=h;let⟨m,Q,O⟩:=I.loc;have o:sQ X.env.scope x:=by rcases n with k | k;exact .inl k;exact .inr (.inl k)
 let⟨u,r,l⟩:=O i x v hi J o;refine wpAny_AugAssign_Name ?_;have p:wpAny (model X.prog X.w) X.A (eval e X.env) (λw g=>wpAny (model X.prog X.w) X.A (inplaceOp op u w) (λr j=>wpAny (model X.prog X.w) X.A (storeName X.env x r) (λ_=>SP X a D .next) X.xe j) X.xe g) X.xe s:=by
  refine cN (M a s A H _ I h) λw Y z_=>?_;obtain⟨y,B,E,U,S⟩:=z_
  refine cN (R a Y A B v y u w _ E r U S) λz Z z_=>?_;obtain⟨zv,C,F,W,T⟩:=z_
  exact KF F K hi n W (λs3 G=>⟨_,C,G,T⟩) N
 rcases l with⟨b,P⟩ | ⟨b,c,L,d⟩
 .exact wpAny_loadName_local I.ok.kind b Q P p
 .rcases b with b | b
  .exact wpAny_loadName_cell I.ok.kind b L d p
  .rcases n with k | k
   .have:X.env.scope.names.lookup x=some .free:=b;rw[k]at this;cases this
   .have:X.env.scope.names.lookup x=some .free:=b;rw[k]at this;cases this
noncomputable def BP(f:Int->Int->Int):uD:=λx y H Q=>∃i j,x = .int i/\y = .int j/\Q (.int (f i j)) H
def M0:BI X .Add (BP λi j=>i+j):=by
 intro a s g H x y v u Q I d e h;let⟨i,j,b,c,q⟩:=h;subst b;subst c;let⟨t,rfl⟩:=d;let⟨f,rfl⟩:=e;exact iadd_int ⟨.int _,H,I.tok _,⟨_,rfl⟩,q⟩
def rV(c:TT)(tb:TS):TS:=λD σ H=>∃W:Nat->St->Hp->Prop,(∃m,W m σ H)/\∀m σ H,W m σ H->
 c σ H λb H1=>if b=true then∃N:St->Hp->Prop,(∀S' H',N S' H'->∃m',m'<m/\W m' S' H')/\tb {D with nx:=N,ct:=N,bk:=D.nx} σ H1 else D.nx σ H1
def CH{c:Expr}{g:List Stmt}{C:TT}{B:TS}(A:PassesOwn (model X.prog X.w) X.A X.env X.xe)(G:PT X c C)(F:i5 X g B):PS X (.While c g [] pos) (rV C B):=by
 intro a s Q H D I h;let⟨W,⟨J,O⟩,j⟩:=h;refine wpAny_While (codeAny_whileLoop (λn K=>∃k u,Inv X a k u K/\W n k u) ?_ J ⟨Q,H,I,O⟩);rintro n L ⟨e,w,E,P⟩;refine wpAny_passesOwn A (cN (G a L e w _ E (j n e w P)) λb M z_=>?_);obtain⟨x,y,l⟩:=z_;cases b with
 | true=>
  let⟨N,z,l⟩:=l;rw[vd rfl];refine wpAny_passesOwn A (cN (F a M e x _ y l) λf R m=>?_);cases f with
  | next=>
   let⟨d,i,o,r⟩:=m;let⟨q,p,t⟩:=z d i r;exact⟨q,p,d,i,o,t⟩
  | cont=>
   let⟨d,i,o,r⟩:=m;let⟨q,p,t⟩:=z d i r;exact⟨q,p,d,i,o,t⟩
  | brk=>exact m
  | ret v=>exact m
 | false=>
  rw[vc vF];exact wpAny_execs_nil ⟨e,x,y,l⟩
end
structure It where
 go:Nat->Hp->Prop
 lT:Nat->Hp->V->Hp->Prop
 stop:Nat->Hp->Prop
def gf(X:Cx)(pins:Ny)(H:Hp)(b:Addr):Prop:=
 H b=none/\b≠X.env.locals/\b∉X.fs/\(b∈X.ex\/X.s₀.heap.objs.size<=b)/\(∀x c,X.env.cells.lookup x=some c->c≠b)/\∀p∈X.pn++pins,p.1≠b
def Inv.ie{g:St}{H H':Hp}(I:Inv X pins g H s)(a:s.heap.objs.size<=b)(d:H' b=none):gf X pins H' b:=by
 refine⟨d,Nat.ne_of_gt (Nat.lt_of_lt_of_le I.lt a),I.Bp a,.inr (vW I.sz a),λx c e z=>?_,λp f z=>?_⟩
 .let⟨v,q⟩:=I.cell x c e;exact ub (Nat.lt_of_lt_of_le q.lt (by rw[z];exact a)) (Nat.lt_irrefl _)
 .exact ub (Nat.lt_of_lt_of_le (vI (I.pin p f).1) (by rw[z];exact a)) (Nat.lt_irrefl _)
structure Turn(P:Program)(w:World)(K:cG)(tg:Expr)(J:It)(fp:L7)(it:Addr)(tn:Nat->Heap->Prop):Prop where
 mem:it∈fp
 obj:∀i h,tn i h->∀b∈fp,∃o,h.get? b=some o/\∀v,o.data≠.cell v
 keep:∀i h h',tn i h->(∀b∈fp,∀o,h.get? b=some o->h'.get? b=some o)->tn i h'
 item:∀(X:Cx),X.prog=P->X.w=w->X.K=K->X.calm=true->∀(i:Nat) (pins:Ny) (s:Shared) (σ:St) (H:Hp) (E:Nz),Inv X pins σ H s->(∀b∈fp,gf X pins H b)->tn i s.heap->J.go i H->
  wpAny (model P w) X.A (pyNext (.ref it)) (λr s1=>∃u,r=some u/\
   wpAny (model P w) X.A (letOwnedTupleGo tg (.ref it) u) (λ_ s2=>∃x H',Inv X pins σ H' s2/\RelV x u/\J.lT i H x H'/\tn (i+1) s2.heap/\∀b∈fp,H' b=none) E s1) E s
 done:∀(X:Cx),X.prog=P->X.w=w->X.K=K->X.calm=true->∀(i:Nat) (pins:Ny) (s:Shared) (σ:St) (H:Hp) (E:Nz),Inv X pins σ H s->(∀b∈fp,gf X pins H b)->tn i s.heap->J.stop i H->
  wpAny (model P w) X.A (pyNext (.ref it)) (λr s1=>r=none/\Inv X pins σ H s1) E s
 self:∀(A:Around) (i:Nat) (s:Shared) (Q:Nz) (E:Nz),tn i s.heap->Q (.ref it) s->wpAny (model P w) A (pyIter (.ref it)) Q E s
noncomputable abbrev TI:=St->Hp->(It->Hp->Prop)->Prop
def vr(X:Cx)(pins:Ny)(σ:St)(tg:Expr)(R:It->Hp->Prop)(itv:Value)(s2:Shared):Prop:=
 ∃(it:Addr) (fp:L7) (tn:Nat->Heap->Prop) (J:It) (H':Hp),itv = .ref it/\Inv X pins σ H' s2/\Turn X.prog X.w X.K tg J fp it tn/\tn 0 s2.heap/\(∀b∈fp,gf X pins H' b)/\R J H'
def PI(X:Cx)(tg iter:Expr)(wi:TI):Prop:=
 ∀(pins:Ny) (s:Shared) (σ:St) (H:Hp) (R:It->Hp->Prop),Inv X pins σ H s->wi σ H R->
  wpAny (model X.prog X.w) X.A (eval iter X.env) (λv s1=>wpAny (model X.prog X.w) X.A (pyIter v) (vr X pins σ tg R) X.xe s1) X.xe s
def sZ{E:Nz}{Q:Unit->Shared->Prop}(e:s.heap.get? it=some o)(b:o.cls = .type n)(c:o.data = .fields vs)
    (d:["enumerate","zip","dict_itemiterator","dict_reverseitemiterator","odict_iterator","itertools.zip_longest","itertools.pairwise"].contains n=false) (a:Q () s):wpAny M A (letOwnedTupleGo tg (.ref it) u) Q E s:=by
  unfold letOwnedTupleGo;cases tg<;>first
    | exact uc a
    | (cases u<;>first
        | exact uc a
        | (refine ud (wpAny_load e ?_)
           rw[b,c];show wpAny M A (if(["enumerate","zip","dict_itemiterator","dict_reverseitemiterator","odict_iterator","itertools.zip_longest","itertools.pairwise"].contains n&&vs[0]?==some (rawInt _))=true then _ else _) Q E s;rw[vc (by intro h;rw[d,Bool.false_and]at h;cases h)];exact uc a))
def oB(K:cG)(a:Addr):It:=
 ⟨λi H=>∃xs x,cm K H a xs/\xs[i]?=some x,λi H x H'=>H'=H/\∀xs,cm K H a xs->xs[i]?=some x,λi H=>∃xs,cm K H a xs/\⇑xs<=i⟩
def oC(K:cG)(a:Addr):It:=
 ⟨λi H=>∃xs x,cJ K H a xs/\xs[i]?=some x,λi H x H'=>H'=H/\∀xs,cJ K H a xs->xs[i]?=some x,λi H=>∃xs,cJ K H a xs/\⇑xs<=i⟩
def ou(lo:Int)(n:Nat):It:=⟨λi j=>i<n,λi H x H'=>H'=H/\x = .int (lo+i),λi j=>n<=i⟩
def GR{P:Program}{w:World}{K:cG}{W:Expr}(a it:Addr):Turn P w K W (oB K a) [it] it (λi h=>h.IsListIter it a i) where
 mem:=by simp
 obj:=λi h f b j=>by
  have e:b=it:=by simpa using j
  subst e;let⟨o,e,c,d⟩:=f
  simp_all
 keep:=λi h m f k=>f.at λo e=>k it (by simp) o e
 item:=by
  intro X B D A L i g s M H E I n f C;subst B D A;let⟨Y,x,q,F⟩:=C;let⟨G,J,p,S⟩:=I.list q;let⟨u,Q,T⟩:=J.get F;let⟨r,t,fCt,v,y,z⟩:=n it (by simp);refine wpAny_pyNext_list_item f p.isList (x:=u) #v[Q] λm l U=>?_
  have N:Inv X g M H {s with heap:=m}:=I.turned (t':=s.toks) (λb o j e=>(U.2 b j).trans e) r t v y z;let⟨o,e,c,d⟩:=id l;exact⟨u,rfl,sZ (s:={s with heap:=m}) e c d nofun ⟨x,H,N,T,⟨rfl,λys R=>by rw[I.fI R q];exact F⟩,l,λb j=>(n b j).1⟩⟩
 done:=by
  intro X B D A L i g s M H E I n f C;subst B D A;let⟨Y,q,F⟩:=C;let⟨G,J,p,S⟩:=I.list q;let⟨r,t,fCt,v,y,z⟩:=n it (by simp);have Z:=⇑J;exact wpAny_pyNext_list_end (I.ok.hd L) f p.isList (by simp;lia) λm O=>⟨rfl,I.turned (t':=s.toks) (λb o j e=>O b o j e) r t v y z⟩
 self:=λ_ _ _ _ _ f h=>wpAny_pyIter_listiter f h
def FV{P:Program}{w:World}{K:cG}{W:Expr}(a it:Addr):Turn P w K W (oC K a) [it] it (λi h=>h.IsTupleIter it a i) where
 mem:=by simp
 obj:=λi h f b j=>by
  have e:b=it:=by simpa using j
  subst e;let⟨o,e,c,d⟩:=f
  simp_all
 keep:=λi h n f k=>f.at λo e=>k it (by simp) o e
 item:=by
  intro X C F B L i g s M H E I q f D;subst C F B;let⟨Y,x,r,G⟩:=D;let⟨l,J,p,S⟩:=I.tuple r;let⟨u,Q,T⟩:=J.get G;let⟨t,v,fCt,y,z,A⟩:=q it (by simp);refine wpAny_pyNext_tuple_item f (show s.heap.IsTuple a l.toArray from p) (x:=u) #v[Q] λn m U=>?_
  have N:Inv X g M H {s with heap:=n}:=I.turned (t':=s.toks) (λb o j e=>(U.2 b j).trans e) t v y z A;let⟨o,e,c,d⟩:=id m;exact⟨u,rfl,sZ (s:={s with heap:=n}) e c d nofun ⟨x,H,N,T,⟨rfl,λys R=>by rw[I.m3 R r];exact G⟩,m,λb j=>(q b j).1⟩⟩
 done:=by
  intro X C F B L i g s M H E I q f D;subst C F B;let⟨Y,r,G⟩:=D;let⟨l,J,p,S⟩:=I.tuple r;let⟨t,v,fCt,y,z,A⟩:=q it (by simp);have Z:=⇑J;exact wpAny_pyNext_tuple_end (I.ok.hd L) f (show s.heap.IsTuple a l.toArray from p) (by simp;lia) λn O=>⟨rfl,I.turned (t':=s.toks) (λb o j e=>O b o j e) t v y z A⟩
 self:=λ_ _ _ _ _ f h=>wpAny_pyIter_tupleiter f h
def FU{P:Program}{w:World}{K:cG}{L:Expr}(it:Addr)(lo:Int)(n:Nat):Turn P w K L (ou lo n) [it] it (λi h=>IsRangeIter h it (lo+(i:Nat)*1) ((n:Int)-(i:Nat)) 1) where
 mem:=by simp
 obj:=λi h c b d=>by
  simp_all
 keep:=λi h g c k=>k it (by simp) _ c
 item:=by
  intro X x A u y i a s C H E I j c z;subst x A u;let⟨l,m,fCt,p,q,r⟩:=j it (by simp);have W:=Walks.range (prog:=X.prog) (w:=X.w) (I.ok.hd y) it lo 1 n;refine W.item i s _ _ z c λv g B G f J=>?_
  let⟨t,rfl⟩:=G;have D:Inv X a C H {s with heap:=g,toks:=B}:=I.turned (λb o d e=>J b o #v[d] e) l m p q r;refine⟨_,rfl,sZ (s:={s with heap:=g,toks:=B}) (n:="range_iterator") f rfl rfl nofun ⟨.int (lo+i),H,D,⟨t,?_⟩,⟨rfl,rfl⟩,f,λb d=>(j b d).1⟩⟩;rw[Int.mul_one]
 done:=by
  intro X x A u y i a s C H E I j c z;subst x A u;let⟨l,m,fCt,p,q,r⟩:=j it (by simp);exact wpAny_pyNext_range_end (I.ok.hd y) c (by have:n<=i:=z;lia) λg F=>⟨rfl,I.turned (t':=s.toks) (λb o d e=>F b o d e) l m p q r⟩
 self:=λZ Z Z Z Z c h=>wpAny_pyIter_rangeiter c h
section
variable{X:Cx}{tg:Expr}
def pB(K:cG)(tl:TE):TI:=λσ H R=>tl σ H λx H1=>∃a,x = .ref a/\(∃xs,cm K H1 a xs)/\R (oB K a) H1
def sX(K:cG)(tl:TE):TI:=λσ H R=>tl σ H λx H1=>∃a,x = .ref a/\(∃xs,cJ K H1 a xs)/\R (oC K a) H1
def Ja{l:Expr}{g:TE}(k:PE X l g):PI X tg l (pB X.K g):=by
 intro c s u H R I h;refine cN (k c s u H _ I h) λv f z_=>?_;obtain⟨x,i,d,t,r⟩:=z_
 let⟨a,e,⟨z,m⟩,q⟩:=r;subst e;cases t;let⟨n,y,p,w⟩:=d.list m;refine wpAny_pyIter_list p.isList ?_;refine⟨f.heap.objs.size,[f.heap.objs.size],_,_,i,rfl,d.kept (t':=f.toks) λb o e=>vJ _ e,GR a _,⟨_,Heap.get?_push_size _ rfl,rfl,rfl⟩,λb j=>?_,q⟩;have e:b=f.heap.objs.size:=by simpa using j
 subst e;exact d.ie (vb _) (d.cL.fresh (vb _))
def xf{l:Expr}{i:TE}(m:PE X l i):PI X tg l (sX X.K i):=by
 intro c s u H R I h;refine cN (m c s u H _ I h) λv d z_=>?_;obtain⟨x,j,f,t,r⟩:=z_
 let⟨a,e,⟨z,n⟩,q⟩:=r;subst e;cases t;let⟨g,y,p,w⟩:=f.tuple n;refine wpAny_pyIter_tuple (show d.heap.IsTuple a g.toArray from p) ?_;refine⟨d.heap.objs.size,[d.heap.objs.size],_,_,j,rfl,f.kept (t':=d.toks) λb o e=>vJ _ e,FV a _,⟨_,Heap.get?_push_size _ rfl,rfl,rfl⟩,λb k=>?_,q⟩;have e:b=d.heap.objs.size:=by simpa using k
 subst e;exact f.ie (vb _) (f.cL.fresh (vb _))
def Ij{a:Ny}{f:St}{H:Hp}{s:Shared}{R:It->Hp->Prop}{E:Nz}{lo hi:Int}{t u v:Tok}{d:Nat}(I:Inv X a f H s)(i : -(2^62)<=lo)(j:lo<2^62)(k : -(2^62)<=hi)(l:hi<2^62)
  (q:R (ou lo (hi-lo).toNat) H):wpAny (model X.prog X.w) X.A (pyIter (.ref s.heap.objs.size)) (vr X a f tg R) E {s with heap:=s.heap.push {cls:=.type "range",data:=.fields #[.int lo t,.int hi u,.int 1 v]},toks:=d}:=by
 refine wpAny_pyIter_range (IsRange.new ..) (small_one i j k l) ?_;have c:Inv X a f H {s with heap:=s.heap.push {cls:=.type "range",data:=.fields #[.int lo t,.int hi u,.int 1 v]},toks:=d}:=I.kept λb o e=>vJ _ e
 refine⟨(s.heap.push {cls:=.type "range",data:=.fields #[.int lo t,.int hi u,.int 1 v]}).objs.size,[(s.heap.push {cls:=.type "range",data:=.fields #[.int lo t,.int hi u,.int 1 v]}).objs.size],_,_,H,rfl,
  c.kept (t':=d) λb o e=>vJ _ e,FU _ lo (hi-lo).toNat,?_,λb m=>?_,q⟩
 .have g:lo+((0:Nat):Int)*1=lo:=by simp
  have h:(((hi-lo).toNat:Nat):Int)-((0:Nat):Int)=Builtin.Range.rangeSize lo hi 1:=by rw[rangeSize_one];split<;>lia
  show IsRangeIter _ _ (lo+((0:Nat):Int)*1) ((((hi-lo).toNat:Nat):Int)-((0:Nat):Int)) 1;rw[g,h];exact Heap.get?_push_size _ rfl
 .have e:b=(s.heap.push {cls:=.type "range",data:=.fields #[.int lo t,.int hi u,.int 1 v]}).objs.size:=by simpa using m
  subst e;exact c.ie (vb _) (c.cL.fresh (vb _))
def pC(ta:TA):TI:=λσ H R=>ta σ H λvs H1=>∃j:Int,vs=[.int j]/\-(2^62)<=j/\j<2^62/\R (ou 0 j.toNat) H1
def JK{a:Expr}{f:TA}{p c:Pos}(k:Gl X "range")(l:X.mg "range"= none)(i:PA X [a] f)(m:starEach [a] X.env=[(false,eval a X.env)]:=by rfl):PI X tg (.Call (.Name "range" p) [a] [] c) (pC f):=by
 intro b s u H R I h;refine Call_ (Z2 I k l boot_range (PyProof.Rows.callWith_type1 (cN (i c b s u H _ I h) λx w z_=>?_) m rfl));obtain⟨y,v,g,o,d⟩:=z_;let⟨j,e,d,n,q⟩:=d;subst e;cases o with
 | cons r rr=>
  cases rr;let⟨t,rfl⟩:=r;exact call_range_1 (Ij g ⋯ ⋯ d n #v[q])
def tW(wi:TI)(g:TG)(tb:TS):TS:=λD σ H=>wi σ H λJ H1=>∃W:Nat->Nat->St->Hp->Prop,(∃m,W 0 m σ H1)/\∀i m σ H,W i m σ H->
 (J.stop i H/\D.nx σ H)\/(J.go i H/\∃N:St->Hp->Prop,(∀S' H',N S' H'->∃m',m'<m/\W (i+1) m' S' H')/\∀x H',J.lT i H x H'->g x σ H' λσ2 H2=>tb {D with nx:=N,ct:=N,bk:=D.nx} σ2 H2)
noncomputable def iE(fp:L7)(h:Heap):Ny:=fp.filterMap λb=>(h.get? b).map λo=>(b,o)
def yM(a:b∈fp)(e:h.get? b=some o):(b,o)∈iE fp h:=mem_filterMap.mpr ⟨b,a,by rw[e];rfl⟩
def Hd(d:p∈iE fp h):p.1∈fp/\h.get? p.1=some p.2:=by
 let⟨b,c,e⟩:=mem_filterMap.mp d;cases q:h.get? b with
 | none=>rw[q]at e;cases e
 | some o=>
  rw[q]at e;have a:(b,o)=p:=vL e;subst a;exact⟨c,q⟩
def Inv.pinned{f:St}{H:Hp}(I:Inv X pins f H s)(i:∀b∈fp,gf X pins H b)(j:∀b∈fp,∃o,s.heap.get? b=some o/\∀v,o.data≠.cell v):Inv X (pins++iE fp s.heap) f H s:=
 I.pins_of λp k=>(vh.mp k).elim (λz=>I.pin p (mem_append_right _ z)) λz=>by
  let⟨c,e⟩:=Hd z;let⟨g,h,fCt,Z⟩:=i p.1 c;let⟨o,a,d⟩:=j p.1 c;rw[e]at a;cases a;exact⟨e,g,h,fCt,d⟩
def Inv.iT{a:St}{H:Hp}(I:Inv X (pins++pl) a H s):Inv X pins a H s:=I.pins_of λp b=>I.pin p (mem_append_right _ (mem_append_left _ b))
def Jd{q:Expr}{A:List Stmt}{wi:TI}{g:TG}{tb:TS}{Y:Pos}(G:PassesOwn (model X.prog X.w) X.A X.env X.xe)(hc:X.calm=true)(hi:PI X tg q wi)(hg:PG X tg g)(p:i5 X A tb)
  (hs:∀x,foldedSetIterable q X.env x=pure x:=by intro _;rfl):PS X (.For tg q A [] Y) (tW wi g tb):=by
 intro a s σ H D I h;refine wpAny_For (cN (hi a s σ H _ I h) λv s1 h1=>cN h1 λa2 s2 h2=>?_) hs;let⟨it,E,tn,J,H2,e,I2,T,a0,fCt,W,⟨m0,w0⟩,P⟩:=h2;subst e;have t:∀{z:Hp},(∀b∈E,z b=none)->∀b∈E,gf X a z b:=λhn b p=>⟨hn b p,(fCt b p).2⟩
 refine codeAny_forLoop_any (λn s'=>∃i w z,Inv X a w z s'/\tn i s'.heap/\(∀b∈E,z b=none)/\W i n w z) ?_ m0 ⟨0,σ,H2,I2,a0,λb p=>(fCt b p).1,w0⟩;rintro n s3 ⟨i,y,Q,I3,L,F,w3⟩;rcases P i n y Q w3 with⟨O,qn⟩ | ⟨go,N,hN,M⟩
 .refine wpAny_passesOwn G (cN (T.done X rfl rfl rfl hc i a s3 y Q X.xe I3 (t F) L O) λr s4 ⟨U,I4⟩=>?_);subst U;exact wpAny_execs_nil ⟨y,Q,I4,qn⟩
 .refine wpAny_passesOwn G (cN (T.item X rfl rfl rfl hc i a s3 y Q X.xe I3 (t F) L go) λr s4 ⟨u,U,h4⟩=>?_);subst U;refine wpAny_passesOwn G (cN h4 λ_ s5 z_=>?_);obtain⟨x,H5,I5,r5,y5,C,S⟩:=z_;have R:=I5.pinned (t S) (T.obj _ _ C);refine wpAny_passesOwn G (cN (hg _ s5 y H5 x u _ R r5 (M x H5 y5)) λ_ s6 z_=>?_);obtain⟨a1,H6,I6,q6⟩:=z_;refine wpAny_passesOwn G (cN (p _ s6 a1 H6 _ I6 q6) λf Z B=>?_);have l:∀{c:St} {j:Hp},Inv X (a++iE E s5.heap) c j Z->N c j->∃m,m<n/\∃i w z,Inv X a w z Z/\tn i Z.heap/\(∀b∈E,z b=none)/\W i m w z:=λ{c j} k K=>by
   let⟨m',hm,w7⟩:=hN c j K;refine⟨m',hm,i+1,c,j,k.iT,T.keep _ _ _ C λb p o e=>(k.pin (b,o) (mem_append_right _ (mem_append_right _ (yM p e)))).1,λb p=>?_,w7⟩;let⟨o,e,d⟩:=T.obj _ _ C b p;exact(k.pin (b,o) (mem_append_right _ (mem_append_right _ (yM p e)))).2.1
  cases f with
  | next=>let⟨c,j,k,K⟩:=B;exact l k K
  | cont=>let⟨c,j,k,K⟩:=B;exact l k K
  | brk=>let⟨c,j,k,B⟩:=B;exact⟨c,j,k.iT,B⟩
  | ret v=>let⟨x7,c,j,k,r7,B⟩:=B;exact⟨x7,c,j,k.iT,r7,B⟩
end
def J2{K:cG}{a:Addr}{xs:N2}{g:TG}{j:TS}{D:Ends}{b:St}{H:Hp}(c:Nat->St->Hp->Prop)(k:c 0 b H)(o:∀i b H,i<=⇑xs->c i b H->cm K H a xs)
  (r:∀i x b H,xs[i]?=some x->c i b H->g x b H λd H2=>j {D with nx:=c (i+1),ct:=c (i+1),bk:=D.nx} d H2) (l:∀b H,c ⇑xs b H->D.nx b H) :
  ∃W:Nat->Nat->St->Hp->Prop,(∃m,W 0 m b H)/\∀i m b H,W i m b H->
   ((oB K a).stop i H/\D.nx b H)\/((oB K a).go i H/\∃N:St->Hp->Prop,(∀S' H',N S' H'->∃h,h<m/\W (i+1) h S' H')/\∀x H',(oB K a).lT i H x H'->g x b H' λd H2=>j {D with nx:=N,ct:=N,bk:=D.nx} d H2):=by
 refine⟨λi m b H=>m=⇑xs-i/\i<=⇑xs/\c i b H,⟨⇑xs,by simp,va _,k⟩,?_⟩;rintro i m b H ⟨rfl,n,p⟩;have q:=o i b H n p;by_cases f:i<⇑xs
 .refine .inr ⟨⟨xs,xs[i],q,by simp[f]⟩,c (i+1),λS' H' s=>⟨⇑xs-(i+1),⋯,rfl,f,s⟩,λx H' y=>?_⟩;let⟨e,y⟩:=y;subst e;exact r i x b _ (y xs q) p
 .have e:i=⇑xs:=⋯
  subst e;exact .inl ⟨⟨xs,q,vb _⟩,l b H p⟩
def IP{K:cG}{a:Addr}{xs:N2}{g:TG}{j:TS}{D:Ends}{b:St}{H:Hp}(c:Nat->St->Hp->Prop)(k:c 0 b H)(o:∀i b H,i<=⇑xs->c i b H->cJ K H a xs)
  (r:∀i x b H,xs[i]?=some x->c i b H->g x b H λd H2=>j {D with nx:=c (i+1),ct:=c (i+1),bk:=D.nx} d H2) (l:∀b H,c ⇑xs b H->D.nx b H) :
  ∃W:Nat->Nat->St->Hp->Prop,(∃m,W 0 m b H)/\∀i m b H,W i m b H->
   ((oC K a).stop i H/\D.nx b H)\/((oC K a).go i H/\∃N:St->Hp->Prop,(∀S' H',N S' H'->∃h,h<m/\W (i+1) h S' H')/\∀x H',(oC K a).lT i H x H'->g x b H' λd H2=>j {D with nx:=N,ct:=N,bk:=D.nx} d H2):=by
 refine⟨λi m b H=>m=⇑xs-i/\i<=⇑xs/\c i b H,⟨⇑xs,by simp,va _,k⟩,?_⟩;rintro i m b H ⟨rfl,n,p⟩;have q:=o i b H n p;by_cases f:i<⇑xs
 .refine .inr ⟨⟨xs,xs[i],q,by simp[f]⟩,c (i+1),λS' H' s=>⟨⇑xs-(i+1),⋯,rfl,f,s⟩,λx H' y=>?_⟩;let⟨e,y⟩:=y;subst e;exact r i x b _ (y xs q) p
 .have e:i=⇑xs:=⋯
  subst e;exact .inl ⟨⟨xs,q,vb _⟩,l b H p⟩
def qG{lo:Int}{n:Nat}{g:TG}{h:TS}{D:Ends}{a:St}{H:Hp}(b:Nat->St->Hp->Prop)(j:b 0 a H)
  (l:∀i a H,i<n->b i a H->g (.int (lo+i)) a H λd H2=>h {D with nx:=b (i+1),ct:=b (i+1),bk:=D.nx} d H2) (k:∀a H,b n a H->D.nx a H) :
  ∃W:Nat->Nat->St->Hp->Prop,(∃m,W 0 m a H)/\∀i m a H,W i m a H->
   ((ou lo n).stop i H/\D.nx a H)\/((ou lo n).go i H/\∃N:St->Hp->Prop,(∀S' H',N S' H'->∃f,f<m/\W (i+1) f S' H')/\∀x H',(ou lo n).lT i H x H'->g x a H' λd H2=>h {D with nx:=N,ct:=N,bk:=D.nx} d H2):=by
 refine⟨λi m a H=>m=n-i/\i<=n/\b i a H,⟨n,by simp,va _,j⟩,?_⟩;rintro i m a H ⟨rfl,q,p⟩;by_cases c:i<n
 .refine .inr ⟨c,b (i+1),λS' H' o=>⟨n-(i+1),⋯,rfl,c,o⟩,λx H' y=>?_⟩;let⟨e,y⟩:=y;subst e y;exact l i a _ c p
 .have e:i=n:=⋯
  subst e;exact .inl ⟨vb _,k a H p⟩
noncomputable abbrev R2:=V->V->Hp->VK->Prop
def gn(X:Cx)(f:Value->Value->Sem Value)(r:R2):Prop:=
 ∀(pins:Ny) (s:Shared) (σ:St) (H:Hp) (x y:V) (v u:Value) (Q:VK),Inv X pins σ H s->RelV x v->RelV y u->r x y H Q->
  wpAny (model X.prog X.w) X.A (f v u) (EP X pins σ Q) X.xe s
def vR(X:Cx)(f:Value->Sem Value)(r:V->Hp->VK->Prop):Prop:=
 ∀(pins:Ny) (s:Shared) (σ:St) (H:Hp) (x:V) (v:Value) (Q:VK),Inv X pins σ H s->RelV x v->r x H Q->
  wpAny (model X.prog X.w) X.A (f v) (EP X pins σ Q) X.xe s
def dE(X:Cx)(f:Value)(r:N2->Hp->VK->Prop):Prop:=
 ∀(pins:Ny) (s:Shared) (σ:St) (H:Hp) (xs:N2) (us:L9) (Q:VK),Inv X pins σ H s->Vals xs us->r xs H Q->
  wpAny (model X.prog X.w) X.A (call f us) (EP X pins σ Q) X.xe s
def vO(X:Cx)(r:V->Hp->(Bool->Hp->Prop)->Prop):Prop:=
 ∀(pins:Ny) (s:Shared) (σ:St) (H:Hp) (x:V) (v:Value) (Q:Bool->Hp->Prop),Inv X pins σ H s->RelV x v->r x H Q->
  wpAny (model X.prog X.w) X.A (truthy v) (TP X pins σ Q) X.xe s
def uY(r:R2)(ta tb:TE):TE:=λσ H Q=>ta σ H λx H1=>tb σ H1 λy H2=>r x y H2 Q
def EY(r:V->Hp->VK->Prop)(ta:TE):TE:=λσ H Q=>ta σ H λx H1=>r x H1 Q
def rI(C:Int->Int->Prop)(g:Int->Int->V):R2:=λx y H Q=>∃i j,x = .int i/\y = .int j/\C i j/\Q (g i j) H
def oU(g:Int->Int->V):R2:=λx y H Q=>∃i j,x = .int i/\y = .int j/\Q (g i j) H
noncomputable def rU(g:Int->V):V->Hp->VK->Prop:=λx H Q=>∃i,x = .int i/\Q (g i) H
section
variable{X:Cx}{a b c:Expr}{ta tb tc:TE}{pos:Pos}
def sR(k:PE X a ta)(l:PE X b tb){c:St}{H:Hp}{R:V->V->Hp->Prop}(I:Inv X pins c H s)
  (h:ta c H λx H1=>tb c H1 λy H2=>R x y H2) {Q:Nz} {f:Value->Value->Sem Value}
  (m:∀v u g x y H2,Inv X pins c H2 g->RelV x v->RelV y u->R x y H2->wpAny (model X.prog X.w) X.A (f v u) Q X.xe g) :
  wpAny (model X.prog X.w) X.A (eval a X.env) (λv d=>wpAny (model X.prog X.w) X.A (eval b X.env) (λu e=>wpAny (model X.prog X.w) X.A (f v u) Q X.xe e) X.xe d) X.xe s:=by
 refine cN (k pins s c H _ I h) λv r z_=>?_;obtain⟨x,H1,i,p,n⟩:=z_
 refine cN (l pins r c H1 _ i n) λu g z_=>?_;obtain⟨y,H2,j,q,o⟩:=z_
 exact m v u g x y H2 j p q o
def jr(i:gn X (binaryOp op) r)(f:PE X a ta)(g:PE X b tb):PE X (.BinOp a op b pos) (uY r ta tb):=by
 intro c s m H Q I h;exact wpAny_BinOp (sR f g I h λv u l x y d e j k q=>i c l m d x y v u Q e j k q)
def kr{r:V->Hp->VK->Prop}(g:vR X (unaryOp op) r)(f:PE X a ta):PE X (.UnaryOp op a pos) (EY r ta):=by
 intro b s c H Q I h;refine UnaryOp_ (cN (f b s c H _ I h) λv k z_=>?_);let⟨x,d,e,j,i⟩:=z_;exact g b k c d x v Q e j i
def uX{f:Value->Value->Sem Value}{C:Int->Int->Prop}{g:Int->Int->Int}
  (a:∀(i j:Int) (t u:Tok) (s:Shared) (Q:Nz) (E:Nz),C i j->Q (.int (g i j) s.toks) {s with toks:=s.toks+1}->wpAny (model X.prog X.w) X.A (f (.int i t) (.int j u)) Q E s) :
  gn X f (rI C λi j=>.int (g i j)):=by
 intro b s l H x y v u Q I d e h;let⟨i,j,rfl,rfl,c,q⟩:=h;let⟨t,rfl⟩:=d;let⟨k,rfl⟩:=e;exact a i j t k s _ _ c ⟨.int (g i j),H,I.tok _,⟨_,rfl⟩,q⟩
def tH{f:Value->Value->Sem Value}{g:Int->Int->Int}
  (a:∀(i j:Int) (t u:Tok) (s:Shared) (Q:Nz) (E:Nz),Q (.int (g i j) s.toks) {s with toks:=s.toks+1}->wpAny (model X.prog X.w) X.A (f (.int i t) (.int j u)) Q E s) :
  gn X f (oU λi j=>.int (g i j)):=by
 intro b s k H x y v u Q I c d h;let⟨i,j,rfl,rfl,q⟩:=h;let⟨t,rfl⟩:=c;let⟨e,rfl⟩:=d;exact a i j t e s _ _ ⟨.int (g i j),H,I.tok _,⟨_,rfl⟩,q⟩
def oQ{f:Value->Value->Sem Value}{g:Int->Int->Bool}
  (a:∀(i j:Int) (t u:Tok) (s:Shared) (Q:Nz) (E:Nz),Q (.bool (g i j)) s->wpAny (model X.prog X.w) X.A (f (.int i t) (.int j u)) Q E s) :
  gn X f (oU λi j=>.bl (g i j)):=by
 intro b s k H x y v u Q I c d h;let⟨i,j,rfl,rfl,q⟩:=h;let⟨t,rfl⟩:=c;let⟨e,rfl⟩:=d;exact a i j t e s _ _ ⟨.bl (g i j),H,I,rfl,q⟩
def ny(i j:Int):Prop:=0<=j/\j<=1000000/\i.natAbs<2^64
def jR:gn X (binaryOp .Add) (oU λi j=>.int (i+j)):=tH λZ Z Z Z Z Z Z q=>add_int q
def qP:gn X (binaryOp .Sub) (oU λi j=>.int (i-j)):=tH λZ Z Z Z Z Z Z q=>sub_int q
def j3:gn X (binaryOp .Mod) (rI (λZ j=>0<j) λi j=>.int (i%j)):=uX λi j Z Z Z Z Z a q=>by
 have b:(0:Int)<j:=a;exact mod_int' ⋯ (by rw[Int.fmod_eq_emod_of_nonneg i ⋯];exact q)
def zN:gn X (binaryOp .Pow) (rI ny λi j=>.int (i^j.toNat)):=uX λZ Z Z Z Z Z Z a q=>pow_int_small a.1 a.2.1 a.2.2 q
def NT{f:Value->Sem Value}{g:Int->Int}
  (a:∀(i:Int) (t:Tok) (s:Shared) (Q:Nz) (E:Nz),Q (.int (g i) s.toks) {s with toks:=s.toks+1}->wpAny (model X.prog X.w) X.A (f (.int i t)) Q E s) :
  vR X f (rU λi=>.int (g i)):=by
 intro b s d H x v Q I c h;let⟨i,rfl,q⟩:=h;let⟨t,rfl⟩:=c;exact a i t s _ _ ⟨.int (g i),H,I.tok _,⟨_,rfl⟩,q⟩
def Z8:vR X (unaryOp .USub) (rU λi=>.int (-i)):=NT λj j j j j q=>neg_int q
end
noncomputable def BE:V->V->Bool
 | .de,.de=>true | .de,.int _=>true | .int _,.de=>true | .de,.bl _=>true | .bl _,.de=>true | .de,.str _=>true | .str _,.de=>true
 | .int _,.int _=>true | .bl _,.bl _=>true | .str _,.str _=>true | .mu _,.mu _=>true
 | .int _,.str _=>true | .str _,.int _=>true | .bl _,.str _=>true | .str _,.bl _=>true
 | _,_=>false
def Bu:R2:=λx y H Q=>BE x y=true/\Q (.bl (decide (x=y))) H
def IH:decide (V.int i=V.int j)=(i==j):=by
 rw[Bool.eq_iff_iff];simp
def MS:decide (V.bl i=V.bl j)=(i==j):=by
 rw[Bool.eq_iff_iff];simp
def II:decide (V.str i=V.str j)=(i==j):=by
 rw[Bool.eq_iff_iff];simp
def IG:decide (V.mu i=V.mu j)=(i.toList==j.toList):=by
 rw[Bool.eq_iff_iff];cases i;cases j;simp
section
variable{X:Cx}{a b c:Expr}{ta tb tc:TE}{pos:Pos}
def qM{a:St}{H:Hp}(I:Inv X pins a H s)(q:Q (.bl k) H)(e:k=k'):EP X pins a Q (.bool k') s:=by
 subst e;exact⟨.bl k,H,I,rfl,q⟩
def Jb:gn X (compareOp .Eq) Bu:=by
 intro e s f H x y v u Q I d a h;let⟨c,q⟩:=h;cases x with
 | de=>
  cases d;cases y with
  | de=>cases a;exact PySem.EqNone.eq_none_none (qM I q (by simp))
  | bl j=>cases a;exact PySem.EqNone.eq_none_bool (qM I q (by simp))
  | int j=>let⟨b,rfl⟩:=a;exact PySem.EqNone.eq_none_int (qM I q (by simp))
  | str j=>let⟨b,rfl⟩:=a;exact PySem.EqNone.eq_none_str (qM I q (by simp))
  | _=>exact ub (show false=true from c) vF
 | bl i=>
  cases d;cases y with
  | de=>cases a;exact PySem.EqNone.eq_bool_none (qM I q (by simp))
  | bl j=>cases a;exact eq_bool (qM I q MS)
  | str j=>let⟨b,rfl⟩:=a;exact PySem.EqMixed.eq_bool_str (qM I q (by simp))
  | _=>exact ub (show false=true from c) vF
 | int i=>
  let⟨t,rfl⟩:=d;cases y with
  | de=>cases a;exact PySem.EqNone.eq_int_none (qM I q (by simp))
  | int j=>let⟨b,rfl⟩:=a;exact eq_int (qM I q IH)
  | str j=>let⟨b,rfl⟩:=a;exact PySem.EqMixed.eq_int_str (qM I q (by simp))
  | _=>exact ub (show false=true from c) vF
 | str i=>
  let⟨t,rfl⟩:=d;cases y with
  | de=>cases a;exact PySem.EqNone.eq_str_none (qM I q (by simp))
  | bl j=>cases a;exact PySem.EqMixed.eq_str_bool (qM I q (by simp))
  | int j=>let⟨b,rfl⟩:=a;exact PySem.EqMixed.eq_str_int (qM I q (by simp))
  | str j=>let⟨b,rfl⟩:=a;exact eq_str (qM I q II)
  | _=>exact ub (show false=true from c) vF
 | mu i=>
  let⟨t,rfl⟩:=d;cases y with
  | mu j=>let⟨b,rfl⟩:=a;exact PySem.W.eq_bytes (qM I q IG)
  | _=>exact ub (show false=true from c) vF
 | _=>cases y<;>exact ub (show false=true from c) vF
def Ya:gn X (compareOp .Lt) (oU λi j=>.bl (decide (i<j))):=oQ λZ Z Z Z Z Z Z q=>lt_int q
def wU:gn X (compareOp .LtE) (oU λi j=>.bl (decide (i<=j))):=oQ λZ Z Z Z Z Z Z q=>le_int q
def kq:gn X (compareOp .Gt) (oU λi j=>.bl (decide (j<i))):=oQ λZ Z Z Z Z Z Z q=>gt_int q
def EG:gn X (compareOp .GtE) (oU λi j=>.bl (decide (j<=i))):=oQ λZ Z Z Z Z Z Z q=>ge_int q
def Mr:gn X (compareOp .Is) (λx y H Q=>y = .de/\Q (.bl (decide (x = .de))) H):=by
 intro a s d H x y v u Q I b c h;let⟨rfl,q⟩:=h;cases c;refine is_none_gen (qM I q ?_);cases x<;>first
  | (cases b;rfl)
  | (let⟨t,rfl⟩:=b;rfl)
def DG:gn X (compareOp .IsNot) (λx y H Q=>y = .de/\Q (.bl (!decide (x = .de))) H):=by
 intro a s d H x y v u Q I b c h;let⟨rfl,q⟩:=h;cases c;refine isnot_none_gen (qM I q ?_);cases x<;>first
  | (cases b;rfl)
  | (let⟨t,rfl⟩:=b;rfl)
def cg(b:Expr)(h:op≠.In:=by decide)(d:op≠.NotIn:=by decide):behindInMarks op b=false:=by
 have a:(op==CmpOp.In)=false:=⋯
 have c:(op==CmpOp.NotIn)=false:=⋯
 cases b<;>simp[behindInMarks,a,c]
def om(t:TE):TT:=λσ H Q=>t σ H λx H'=>∃k,x = .bl k/\Q k H'
def jt(t:gn X (compareOp op) r)(o:PE X a ta)(p:PE X b tb)(q:behindInMarks op b=false):PT X (.Compare a [op] [b] pos) (om (uY r ta tb)):=by
 intro d s f H Q I h;refine wpAny_isTrue_Compare1 (cN (o d s f H _ I h) λv F ⟨x,g,l,C,w⟩=>cN (p d F f g _ l w) λu G ⟨y,i,m,D,A⟩=>
  cN (t d G f i x y v u _ m C D A) λc J ⟨z,j,n,E,k,e,B⟩=>?_) q
 subst e;cases E;exact wpAny_truthy_bool ⟨j,n,B⟩
def nZ(r r':R2)(ta tb tc:TE):TE:=λσ H Q=>ta σ H λx H1=>tb σ H1 λy H2=>r x y H2 λz H3=>∃k,z = .bl k/\
 (if k=true then tc σ H3 λw' H4=>r' y w' H4 Q else Q (.bl false) H3)
def xq(L:gn X (compareOp op) r)(i:gn X (compareOp op') r')(F:PE X a ta)(G:PE X b tb)(J:PE X c tc)
  (K:lastMarks [op,op'] [b,c]=false:=by with_unfolding_all rfl):PT X (.Compare a [op,op'] [b,c] pos) (om (nZ r r' ta tb tc)):=by
 intro f s g H Q I h;refine isTrue_chain (cN (F f s g H _ I h) λv Y ⟨x,o,w,S,N⟩=>test_link (cN (G f Y g o _ w N) λu Z ⟨y,p,A,n,O⟩=>
  cN (L f Z g p x y v u _ A S n O) λd s3 ⟨z,j,l,T,k,e,m⟩=>?_)) K
 subst e;cases T;refine wpAny_truthy_bool ?_;cases k with
 | false=>
  let⟨k',D,M⟩:=m;cases D;exact ite_ff ⟨j,l,M⟩
 | true=>
  refine ite_tt (test_last (cN (J f s3 g j _ l m) λw' s4 z_=>?_));let⟨z',q,B,U,P⟩:=z_;refine cN (i f s4 g q y z' u w' _ B n U P) λd' s5 z_=>?_;obtain⟨z2,t,C,W,k2,E,R⟩:=z_;subst E;cases W;exact wpAny_truthy_bool ⟨t,C,R⟩
def oG(K:cG)(x:V)(H:Hp)(k:Bool):Prop:=
 match x with
 | .de=>k=false
 | .bl b=>k=b
 | .int i=>k=(i != 0)
 | .str y=>⇑y<=sizeLine/\k=((⇑y:Int) != 0)
 | .mu y=>y.size<=sizeLine/\k=((y.size:Int) != 0)
 | .ref p=>(∃xs,cm K H p xs/\k = !xs.isEmpty)\/(∃xs,cJ K H p xs/\k = !xs.isEmpty)\/∃kvs,H p=some (.dK kvs)/\k = !kvs.isEmpty
 | _=>False
def F0{κ:Type}{kvs:List (κ×V)}{vs:List (κ×Value)}(r:KV kvs vs):(!vs.isEmpty) = !kvs.isEmpty:=by
 cases r<;>rfl
def W1{xs:N2}{a:L9}(r:Vals xs a):(!a.toArray.isEmpty) = !xs.isEmpty:=by
 cases r<;>simp
def gV:(sizeLine:Nat)<2^63:=by rw[sizeLine_eq];decide
def MK:vO X (λx H Q=>∃k,oG X.K x H k/\Q k H):=by
 intro w s D H x v Q I g h;let⟨k,e,q⟩:=h;have B:=gV;have C:sizeLine=16777216:=sizeLine_eq;cases x with
 | de=>
  cases g;have a:k=false:=e;subst a;exact truthy_none ⟨H,I,q⟩
 | bl b=>
  cases g;have a:k=b:=e;subst a;exact wpAny_truthy_bool ⟨H,I,q⟩
 | int i=>
  let⟨t,rfl⟩:=g;have a:k=(i != 0):=e;subst a;exact PySem.P.truthy_int ⟨H,I,q⟩
 | str y=>
  let⟨t,rfl⟩:=g;obtain⟨A,a⟩:⇑y<=sizeLine/\k=((⇑y:Int) != 0):=e;subst a;exact PySem.P.truthy_str ⋯ ⟨H,I.tok _,q⟩
 | mu y=>
  let⟨t,rfl⟩:=g;obtain⟨A,a⟩:y.size<=sizeLine/\k=((y.size:Int) != 0):=e;subst a;exact PySem.W.truthy_bytes ⋯ ⟨H,I.tok _,q⟩
 | ref p=>
  cases g;have a:(∃f,cm X.K H p f/\k = !f.isEmpty)\/(∃f,cJ X.K H p f/\k = !f.isEmpty)\/∃c,H p=some (.dK c)/\k = !c.isEmpty:=e;rcases a with⟨f,j,a⟩ | ⟨f,j,a⟩ | ⟨c,j,a⟩
  .subst a;let⟨n,r,o,u⟩:=I.list j;have d:=⇑r;exact wpAny_truthy_list o.isList (by simp only[size_toArray];lia) ⟨H,I.tok _,by rw[W1 r];exact q⟩
  .subst a;let⟨n,r,o,u⟩:=I.tuple j;have d:=⇑r;exact truthy_tuple o (by simp only[size_toArray];lia) ⟨H,I.tok _,by rw[W1 r];exact q⟩
  .subst a;obtain⟨u,z,l,r,m⟩:⇑c<=sizeLine/\(p==sysModules)=false/\∃l,KV c l/\s.heap.DictOf (cw X.prog X.w) p l:=I.cL p _ j;have d:⇑c=⇑l:=Paired.length r;exact wpAny_truthy_dict z m ⋯ ⟨H,I.tok _,by rw[F0 r];exact q⟩
 | _=>exact(show False from e).elim
def Ie(f:PE X a ta)(g:∀b,isTrue a X.env b=(do let v <-b;standAt a.pos;holding [v] (truthy v))) :
  PT X a (λσ H Q=>ta σ H λx H'=>∃k,oG X.K x H' k/\Q k H'):=by
 intro c s σ H Q I h;refine isTrue_plain (cN (f c s σ H _ I h) λv l z_=>?_) (g _);let⟨x,d,e,j,i⟩:=z_;exact MK c l σ d x v Q e j i
def yN:gn X (binaryOp .Add) (λx y H Q=>∃i j,x = .str i/\y = .str j/\⇑i+⇑j<=sizeLine/\Q (.str (i++j)) H):=by
 intro a s g H x y v u Q I c d h;let⟨i,j,rfl,rfl,b,q⟩:=h;let⟨t,rfl⟩:=c;let⟨e,rfl⟩:=d;exact add_str (λe f=>⟨.str (i++j),H,I.tok _,⟨_,rfl⟩,q⟩) b
def vals1(r:Vals [x] us):∃u,us=[u]/\RelV x u:=by
 cases r with
 | cons r1 r2=>cases r2;exact⟨_,rfl,r1⟩
def vals2(r:Vals [x,y] us):∃u a,us=[u,a]/\RelV x u/\RelV y a:=by
 cases r with
 | cons r1 r2=>
  cases r2 with
  | cons r3 r4=>cases r4;exact⟨_,_,rfl,r1,r3⟩
def WG:dE X (.builtin "abs") (λxs H Q=>∃i,xs=[.int i]/\Q (.int (if i<0 then -i else i)) H):=by
 intro a s d H xs c Q I r h;let⟨i,rfl,q⟩:=h;let⟨u,rfl,t,rfl⟩:=vals1 r;exact call_abs_int λu b=>⟨.int (if i<0 then -i else i),H,I.tok _,⟨_,rfl⟩,q⟩
def Gz(c:X.calm=true):dE X (.builtin "max") (λxs H Q=>∃i j,xs=[.int i,.int j]/\Q (.int (if j>i then j else i)) H):=by
 intro b s m H xs g Q I r h;let⟨i,j,rfl,q⟩:=h;let⟨u,l,rfl,⟨t,rfl⟩,⟨e,rfl⟩⟩:=vals2 r;refine max_two_ints (I.ok.hd c) λd f k=>⟨_,H,I.kept k,?_,q⟩
 by_cases a:j>i
 .rw[vd a,vd a];exact⟨_,rfl⟩
 .rw[vc a,vc a];exact⟨_,rfl⟩
def YZ(c:X.calm=true):dE X (.builtin "min") (λxs H Q=>∃i j,xs=[.int i,.int j]/\Q (.int (if j<i then j else i)) H):=by
 intro b s m H xs g Q I r h;let⟨i,j,rfl,q⟩:=h;let⟨u,l,rfl,⟨t,rfl⟩,⟨e,rfl⟩⟩:=vals2 r;refine min_two_ints (I.ok.hd c) λd f k=>⟨_,H,I.kept k,?_,q⟩
 by_cases a:j<i
 .rw[vd a,vd a];exact⟨_,rfl⟩
 .rw[vc a,vc a];exact⟨_,rfl⟩
def sI(K:cG)(x:V)(H:Hp)(n:Nat):Prop:=
 match x with
 | .str y=>⇑y<=sizeLine/\n=⇑y
 | .mu y=>y.size<=sizeLine/\n=y.size
 | .ref p=>(∃xs,cm K H p xs/\n=⇑xs)\/∃xs,cJ K H p xs/\n=⇑xs
 | _=>False
def jY:dE X (.builtin "len") (λxs H Q=>∃x n,xs=[x]/\sI X.K x H n/\Q (.int n) H):=by
 intro j s w H xs v Q I r h;let⟨x,n,rfl,e,q⟩:=h;let⟨u,rfl,i⟩:=vals1 r;have m:=gV;have o:sizeLine=16777216:=sizeLine_eq;cases x with
 | str y=>
  let⟨t,rfl⟩:=i;obtain⟨k,b⟩:⇑y<=sizeLine/\n=⇑y:=e;subst b;exact len_str ⋯ ⟨.int _,H,I.tok _,⟨_,rfl⟩,q⟩
 | mu y=>
  let⟨t,rfl⟩:=i;obtain⟨k,b⟩:y.size<=sizeLine/\n=y.size:=e;subst b;exact PySem.W.len_bytes ⋯ ⟨.int _,H,I.tok _,⟨_,rfl⟩,q⟩
 | ref p=>
  cases i;have b:(∃xs,cm X.K H p xs/\n=⇑xs)\/∃xs,cJ X.K H p xs/\n=⇑xs:=e;rcases b with⟨xs,c,b⟩ | ⟨xs,c,b⟩
  .subst b;let⟨d,g,f,l⟩:=I.list c;have a:=⇑g;exact Calls.call_len_list f.isList (by simp only[size_toArray];lia) ⟨.int ⇑xs,H,I.tok _,⟨_,by simp only[size_toArray];rw[a]⟩,q⟩
  .subst b;let⟨d,g,f,l⟩:=I.tuple c;have a:=⇑g;exact len_tuple f (by simp only[size_toArray];lia) ⟨.int ⇑xs,H,I.tok _,⟨_,by simp only[size_toArray];rw[a]⟩,q⟩
 | _=>exact(show False from e).elim
end
structure mr(h:Heap)(x dx C:Addr)(mA:Nw):Prop where
 obj:h.get? x=some (PySem.W.instObj C dx)
 ns:h.Ns1 dx mA
 ne:dx≠x
def G0{h:Heap}{c:Addr}{d:Nw}(n:h.Ns1 c d):∃f,h.get? c=some f/\∀name,PySem.W.lookIn name f=some (d name):=by
 let⟨o,g,p,l,i,j,Z,k⟩:=n;refine⟨o,l,λname=>?_⟩;have e:=k name;unfold nsFind findBy at e;rw[<-Array.find?_toList]at e;unfold PySem.W.lookIn;rw[i];dsimp only;split
 .simp_all
 .rename_i q;rw[q]at e;have a:g.toList.any (·.refKey)=false:=by
   rw[List.any_eq_false];intro y m;let⟨z,t,b⟩:=j y (Array.mem_toList_iff.mp m);simp[DictEntry.refKey,b]
  simp_all
def mr.look{b:Nw}(I:mr h x dx C b):∃a,PySem.W.InstAt h x (PySem.W.instObj C dx) C (some a)/\∀name,PySem.W.lookIn name a=some (b name):=
 let ⟨a,ho,hl⟩:=G0 I.ns
 ⟨a,⟨I.obj,rfl,rfl,ho⟩,hl⟩
section
variable{prog:Program}{w:World}{A:Around}{E:Nz}{s:Shared}{K:cG}{x dx C f:Addr}{mA:Nw}{name:Str}{v:Value}
def Lb{Q:Nz}(X:K.In s.heap)(I:mr s.heap x dx C mA)(c:PySem.W.plainGet K C name=true)(d:PySem.W.hasDictIn K C=true)
  (b:PySem.W.findIn K (.ref C) name=some none) (f:mA name=some v) (a:PySem.W.handedIn v=true) (h:Q v {s with toks:=s.toks+1}) :
  wpAny (model prog w) A (getAttr (.ref x) name expr) Q E s:=by
 let⟨g,J,e⟩:=I.look;exact PySem.W.get_value X J (PySem.W.plainGet_of c).1 (PySem.W.findObj_own d b rfl (by rw[e,f])) a h
def Hv{Q:Value×L9->Shared->Prop}(X:K.In s.heap)(I:mr s.heap x dx C mA)(a:PySem.W.plainGet K C name=true)
  (b:PySem.W.findIn K (.ref C) name=some (↥f)) (d:PySem.W.isFn K (.ref f)=true) (e:mA name=none) (h:Q (.ref f,[.ref x]) s) :
  wpAny (model prog w) A (getMethod (.ref x) name pl) Q E s:=by
 let⟨g,J,c⟩:=I.look;exact PySem.W.method_fn X J (PySem.W.plainGet_of a).1 (PySem.W.plainGet_of a).2 b (beq_iff_eq.mp d) (by show(PySem.W.lookIn name g).map (·.isSome)=some false;rw[c,e];rfl) h
def Lx{Q:Unit->Shared->Prop}(X:K.In s.heap)(I:mr s.heap x dx C mA)
  (o:PySem.W.findIn K (.ref C) "__setattr__"= some (some (.builtin "object.__setattr__"))) (n:PySem.W.plainOver K C=true) (p:PySem.W.takerIn K C name=some none) (m:PySem.W.hasDictIn K C=true)
  (hw:PySem.Within mA ns) (hsz:⇑ns<=sizeLine)
  (h:∀h',mr h' x dx C (λy=>if y=name then some v else mA y)->Heap.SameBut dx s.heap h'->Q () {s with heap:=h',toks:=s.toks+2}) :
  wpAny (model prog w) A (setAttr (.ref x) name v) Q E s:=by
 let⟨B,J,u⟩:=I.look;refine PySem.W.set_plain X J o (PySem.W.osa_open (s:={s with toks:=s.toks+1}) (r:=none) X J n p λb=>?_);let⟨t,l,f⟩:=PySem.W.any_some m;have q:s.heap.get? x=some ⟨.ref C,some dx,.plain,#[]⟩:=I.obj;refine ud (uc (ud (ud (wpAny_loadPart q (ud (PySem.W.Looks.here (s:={s with toks:=s.toks+1}) (PySem.W.looks_clsIn X l) ?_))))));rw[f];refine uc (a:=some dx) (ud (uc (ud ?_)));refine wpAny_nsSet1 (s:={s with toks:=s.toks+1}) I.ns λh' c d=>?_
 let⟨z,k,j,i,g,e⟩:=c.count (PySem.Within.cons name v hw);refine ud (wpAny_lookBehind i (by rw[g];exact pastItsLine_dict (vW e (by rw[vQ];lia))) ?_);exact uc (h _ ⟨(d.2 _ (Ne.symm I.ne)).trans I.obj,c,I.ne⟩ d)
def HV{R:Result->Shared->Prop}(X:K.In s.heap)(c:PySem.W.makesIn K C=true)
  (hi:PySem.W.findIn K (.ref C) "__init__"= some (↥f)) (b:PySem.W.typeIn K (.ref f)=some (.type "function"))
  (h:codeAny (model prog w) (A.under (.builtin "type.__call__" ⟨.ref C::vs,kw⟩)) (.call (.ref f) ⟨.ref (s.heap.objs.size+1)::vs,kw⟩) (PySem.W.InitBack (s.heap.objs.size+1) R)
   {s with heap:=(s.heap.push PySem.W.emptyDict).push (PySem.W.instObj C s.heap.objs.size)}) :
  codeAny (model prog w) A (.call (.ref C) ⟨vs,kw⟩) R s:=by
 let⟨e,g,d,t,i⟩:=s;exact PySem.W.make_core (PySem.W.makes_of X c) (PySem.W.looks_findIn X hi) (λa=>PySem.W.bind_fn X a b) (.inl rfl) h
end
noncomputable def cF(f:Str)(v:V):List (Str×V)->List (Str×V)
 | []=>[(f,v)]
 | (g,x)::r=>if g=f then(g,v)::r else(g,x)::cF f v r
theorem ZQ(f g:Str)(v:V):∀fs:List (Str×V),(cF f v fs).lookup g=if g=f then some v else fs.lookup g
 | []=>by
  show List.lookup g [(f,v)]=_;by_cases h:g=f
  .have a:(g==f)=true:=beq_iff_eq.mpr h;simp only[List.lookup,a,if_pos h]
  .have a:(g==f)=false:=beq_eq_false_iff_ne.mpr h;simp only[List.lookup,a,if_neg h]
 | (k,x)::r=>by
  have b:=ZQ f g v r;rw[show cF f v ((k,x)::r)=(if k=f then(k,v)::r else(k,x)::cF f v r)from rfl]
  grind
theorem wt(f:Str)(v:V):∀fs:List (Str×V),f∈(cF f v fs).map (·.1)/\∀g,g∈fs.map (·.1)->g∈(cF f v fs).map (·.1)
 | []=>⟨by simp[cF],λg h=>by simp at h⟩
 | (k,x)::r=>by
  let⟨a,b⟩:=wt f v r;rw[show cF f v ((k,x)::r)=(if k=f then(k,v)::r else(k,x)::cF f v r)from rfl]
  grind
theorem wS(f:Str)(v:V):∀fs:List (Str×V),⇑(cF f v fs)<=⇑fs+1
 | []=>by simp[cF]
 | (k,x)::r=>by
  have b:=wS f v r;rw[show cF f v ((k,x)::r)=(if k=f then(k,v)::r else(k,x)::cF f v r)from rfl];by_cases a:k=f
  .rw[vd a,vQ,vQ];lia
  .rw[vc a,vQ,vQ];lia
def gg.some_of(r:gg (some v) o):∃u,o=some u/\RelV v u:=by
 cases o with
 | none=>exact(show False from r).elim
 | some u=>exact⟨u,rfl,r⟩
def gg.none_of(r:gg none o):o=none:=by
 cases o with
 | none=>rfl
 | some u=>exact(show False from r).elim
def GD(r:RelV v u):PySem.W.handedIn u=true:=by
 cases v with
 | de=>cases(show u=Value.none from r);rfl
 | bl b=>cases(show u=Value.bool b from r);rfl
 | int i=>let⟨t,e⟩:=(show∃t,u=Value.int i t from r);cases e;rfl
 | str x=>let⟨t,e⟩:=(show∃t,u=Value.str x t from r);cases e;rfl
 | mu b=>let⟨t,e⟩:=(show∃t,u=Value.bytes b t from r);cases e;rfl
 | pz b=>let⟨t,e⟩:=(show∃t,u=Value.float b t from r);cases e;rfl
 | ref a=>cases(show u=Value.ref a from r);rfl
 | ty n=>cases(show u=Value.type n from r);rfl
section
variable{P:Program}{w:World}{H H':Hp}{h h':Heap}{a C dx:Addr}{fs fs':List (Str×V)}
def Wj(b:fy P w H h)(e:H a=some (.ins C dx fs)):∃mA,mr h a dx C mA/\(∀f,gg (fs.lookup f) (mA f))/\PySem.Within mA (fs.map (·.1))/\⇑fs<=1000/\H dx=some (.own a):=by
 let⟨d,z,c,g,mA,n,r,q⟩:=(show cD P w H h a (.ins C dx fs)from b a _ e)
 exact⟨mA,⟨g,n,c⟩,r,q,z,d⟩
end
structure lU(K:cG)(C:Addr):Prop where
 pg:PySem.W.plainGet K C Str.empty=true
 hd:PySem.W.hasDictIn K C=true
 po:PySem.W.plainOver K C=true
 sa:PySem.W.findIn K (.ref C) "__setattr__"= some (some (.builtin "object.__setattr__"))
def lU.get{K:cG}{C:Addr}(c:lU K C)(f:Str):PySem.W.plainGet K C f=true:=c.pg
def dg(K:cG)(C:Addr)(f:Str):Prop:=PySem.W.findIn K (.ref C) f=some none
def dg.uo{K:cG}{C:Addr}{f:Str}(n:dg K C f):PySem.W.takerIn K C f=some none:=by
 unfold PySem.W.takerIn;rw[show PySem.W.findIn K (.ref C) f=some none from n];rfl
structure Meth(K:cG)(C:Addr)(m:Str)(f:Addr):Prop where
 at_:PySem.W.findIn K (.ref C) m=some (↥f)
 fn:PySem.W.isFn K (.ref f)=true
 kp:PySem.W.keepIn K (.ref f)=true
section
variable{X:Cx}{pins:Ny}{σ:St}{H:Hp}{s:Shared}{a C dx:Addr}{fs:List (Str×V)}{f:Str}{v:V}{A:Around}{E:Nz}
def WX{Q:Nz}(I:Inv X pins σ H s)(e:H a=some (.ins C dx fs))(c:lU X.K C)(n:dg X.K C f)(l:fs.lookup f=some v)
  (h:∀u s',Inv X pins σ H s'->RelV v u->Q u s'):wpAny (model X.prog X.w) A (getAttr (.ref a) f b) Q E s:=by
 let⟨i,O,r,j,j,j⟩:=Wj I.cL e;let⟨u,g,d⟩:=gg.some_of (v:=v) (o:=i f) (by rw[<-l];exact r f);exact Lb I.fH O (c.get f) c.hd n g (GD d) (h u _ (I.tok _) d)
def kH{Q:Value×L9->Shared->Prop}(I:Inv X pins σ H s)(e:H a=some (.ins C dx fs))(c:lU X.K C)(k:Meth X.K C m g)(l:fs.lookup m=none)
  (h:Q (.ref g,[.ref a]) s):wpAny (model X.prog X.w) A (getMethod (.ref a) m pl) Q E s:=by
 let⟨d,O,r,j,j,j⟩:=Wj I.cL e;have b:d m=none:=gg.none_of (by rw[<-l];exact r m);exact Hv I.fH O (c.get m) k.at_ k.fn b h
def xz{Q:Unit->Shared->Prop}(I:Inv X pins σ H s)(e:H a=some (.ins C dx fs))(c:lU X.K C)(n:dg X.K C f)(D:⇑fs<1000)(w:RelV y u)
  (h:∀s',Inv X pins σ (upd H a (.ins C dx (cF f y fs))) s'->Q () s'):wpAny (model X.prog X.w) A (setAttr (.ref a) f u) Q E s:=by
 let⟨j,O,r,k,Z,i⟩:=Wj I.cL e;have v:⇑(fs.map (·.1))<=sizeLine:=by rw[vt,sizeLine_eq];lia
 refine Lx I.fH O c.sa c.po n.uo c.hd k v λl d B=>h _ ?_
 have p:∃o,l.get? dx=some o:=let ⟨o,_,_,e',_⟩:=d.ns;⟨o,e'⟩;refine I.write (x:=a) (e:=dx) (by rw[e];exact True.intro) (.inr i) (λb q m z=>(B.2 b m).trans z) p ?_;refine⟨by rw[jg O.ne];exact i,?_,O.ne,d.obj,_,d.ns,λg=>?_,λg t=>?_⟩
 .have:=wS f y fs;lia
 .show gg ((cF f y fs).lookup g) (if g=f then some u else j g);rw[ZQ];by_cases q:g=f
  .rw[vd q,vd q];exact w
  simp_all
 .by_cases q:g=f
  .rw[q];exact(wt f y fs).1
  .refine(wt f y fs).2 g (k g λz=>t ?_);show(if g=f then some u else j g)=none;rw[vc q];exact z
def Inv.made(I:Inv X pins σ H s):Inv X pins σ (upd (upd H s.heap.objs.size (.own (s.heap.objs.size+1))) (s.heap.objs.size+1) (.ins C s.heap.objs.size []))
  {s with heap:=(s.heap.push PySem.W.emptyDict).push (PySem.W.instObj C s.heap.objs.size)}:=by
 have c:(s.heap.push PySem.W.emptyDict).get? s.heap.objs.size=some PySem.W.emptyDict:=Heap.get?_push_size s.heap rfl;have g:((s.heap.push PySem.W.emptyDict).push (PySem.W.instObj C s.heap.objs.size)).get? (s.heap.objs.size+1)=some (PySem.W.instObj C s.heap.objs.size):=by
  have:=Heap.get?_push_size (s.heap.push PySem.W.emptyDict) (o:=PySem.W.instObj C s.heap.objs.size) rfl
  rwa [Heap.size_push]at this
 have h:(s.heap.push PySem.W.emptyDict).Ns s.heap.objs.size (λZ=>none):=⟨PySem.W.emptyDict,#[],_,c,rfl,(λe i=>ub i (by simp)),λZ=>rfl⟩
 have f:=I.laid (a:=s.heap.objs.size) (o:=.own (s.heap.objs.size+1)) (h':=s.heap.push PySem.W.emptyDict) (t':=s.toks) (λb u q=>vJ _ q) (vb _) ⟨_,c⟩;refine f.laid (a:=s.heap.objs.size+1) (o:=.ins C s.heap.objs.size []) (t':=s.toks) (λb u q=>vJ _ q) (Nat.le_of_eq (Heap.size_push _ _)) ?_;have d:s.heap.objs.size≠s.heap.objs.size+1:=vE (Nat.lt_succ_self _);refine⟨by rw[jg d,jA],va _,d,g,λZ=>none,(Heap.Ns1.of_empty h).at λo q=>vJ _ q,λZ=>True.intro,λy j=>ub rfl j⟩
def Iz{f:Str}{s:Shared}{Q:Nz}(b:attributeBase e f env (eval e env)=eval e env)
  (h:wpAny (model prog w) A (eval e env) (λo a=>wpAny (model prog w) A (getAttr o f true) Q E a) E s):wpAny (model prog w) A (eval (.Attribute e f pos) env) Q E s:=
 Attribute_any_ h (by rw[arm_eval_Attribute,b])
end
def tV(K:cG)(ta:TE)(f:Str):TE:=λσ H Q=>ta σ H λx H1=>∃a C dx fs v,x = .ref a/\H1 a=some (.ins C dx fs)/\lU K C/\dg K C f/\fs.lookup f=some v/\Q v H1
def tO(K:cG)(ta tv:TE)(f:Str):TS:=λD σ H=>tv σ H λy H1=>ta σ H1 λx H2=>∃a C dx fs,x = .ref a/\H2 a=some (.ins C dx fs)/\lU K C/\dg K C f/\⇑fs<1000/\
 D.nx σ (upd H2 a (.ins C dx (cF f y fs)))
def sx(X:Cx)(op:Operator)(rd:V->V->Hp->VK->Prop):Prop:=
 ∀(pins:Ny) (s:Shared) (σ:St) (H:Hp) (x y:V) (u v:Value) (Q:VK),Inv X pins σ H s->RelV x u->RelV y v->rd x y H Q->wpAny (model X.prog X.w) X.A (inplaceOp op u v) (EP X pins σ Q) X.xe s
def oW(K:cG)(ta tv:TE)(rd:V->V->Hp->VK->Prop)(f:Str):TS:=λD σ H=>ta σ H λx H1=>∃a C dx fs v,x = .ref a/\H1 a=some (.ins C dx fs)/\lU K C/\dg K C f/\fs.lookup f=some v/\
 tv σ H1 λy H2=>rd v y H2 λz H3=>∃dx' fs',H3 a=some (.ins C dx' fs')/\⇑fs'<1000/\D.nx σ (upd H3 a (.ins C dx' (cF f z fs')))
section
variable{X:Cx}{o e value:Expr}{f:Str}{pos pos' tpos:Pos}{ta tv:TE}
def Jk(o:PE X e ta)(m:attributeBase e f X.env (eval e X.env)=eval e X.env):PE X (.Attribute e f pos) (tV X.K ta f):=by
 intro b s t H Q I h;refine Iz m (cN (o b s t H _ I h) λu z z_=>?_);obtain⟨x,d,g,r,a,C,w,y,v,k,j,c,n,l,q⟩:=z_;subst k;obtain rfl:u=Value.ref a:=r;exact WX g j c n l λB A i p=>⟨v,d,i,p,q⟩
def Z4(p:PE X o ta)(t:PE X value tv)(r:swapsWith value (some (.Attribute o f pos')) pos.line X.env=pure false):PS X (.Assign [.Attribute o f pos'] value pos) (tO X.K ta tv f):=by
 intro b s d H D I h;refine plainObj_wpAny_Assign_Attribute (cN (t b s d H _ I h) λu A z_=>?_) r;let⟨y,e,g,z,q⟩:=z_;refine cN (p b A d e _ g q) λov G z_=>?_;obtain⟨x,B,i,w,a,C,E,F,m,k,c,n,l,v⟩:=z_;subst m;obtain rfl:ov=Value.ref a:=w;exact xz i k c n l z λJ j=>⟨d,_,j,v⟩
def Hi{op:Operator}{i:V->V->Hp->VK->Prop}(G:PE X o ta)(J:PE X value tv)(g:sx X op i):PS X (.AugAssign (.Attribute o f tpos) op value pos) (oW X.K ta tv i f):=by
 intro b s d H D I h;refine wpAny_AugAssign_AttributeAny (cN (G b s d H _ I h) λov Z z_=>?_);obtain⟨x,j,m,O,a,C,W,Y,v,E,B,c,n,l,q⟩:=z_;subst E;obtain rfl:ov=Value.ref a:=O;refine WX m B c n l λu R p N=>cN (J b R d j _ p q) λT S ⟨y,k,r,P,L⟩=>cN (g b S d k v y u T _ r N P L) λw4 s4 ⟨z,U,t,Q,A,F,e,K,M⟩=>?_
 exact xz t e c n K Q λs5 w=>⟨d,_,w,M⟩
noncomputable def Bs:V->V->Hp->VK->Prop:=λx y H Q=>∃i j,x = .int i/\y = .int j/\Q (.int (i+j)) H
def MZ:sx X .Add Bs:=by
 rintro a s e H x y u v Q I c d ⟨i,j,rfl,rfl,q⟩;let⟨t,rfl⟩:=(show∃t,u=Value.int i t from c)
 let⟨b,rfl⟩:=(show∃b,v=Value.int j b from d)
 exact PyProof.Rows.iadd_int ⟨.int (i+j),H,I.tok _,⟨_,rfl⟩,q⟩
end
section
variable{X:Cx}{pins:Ny}{σ:St}{H:Hp}{s:Shared}{A:Around}{E:Nz}{Q:Nz}{c:Value}{b:Bool}
inductive gQ(K:cG)(H:Hp):V->Value->Prop where
 | de:gQ K H .de (.type "NoneType")
 | bl (x:Bool):gQ K H (.bl x) (.type "bool")
 | int (i:Int):gQ K H (.int i) (.type "int")
 | str (x:Str):gQ K H (.str x) (.type "str")
 | pz (x:UInt64):gQ K H (.pz x) (.type "float")
 | lst {a:Addr} {xs:N2} (e:H a=some (.lst xs)):gQ K H (.ref a) (.type "list")
 | lZ {a:Addr} {o:Obj} {xs:N2} (e:H a=some (.lZ o (.lst xs))):gQ K H (.ref a) (.type "list")
 | tup {a:Addr} {xs:N2} (e:H a=some (.tup xs)):gQ K H (.ref a) (.type "tuple")
 | dK {a:Addr} {kvs:List (Key×V)} (e:H a=some (.dK kvs)):gQ K H (.ref a) (.type "dict")
 | dT {a:Addr} {kvs:List (List Key×V)} (e:H a=some (.dT kvs)):gQ K H (.ref a) (.type "dict")
 | ins {a C dx:Addr} {fs:List (Str×V)} (e:H a=some (.ins C dx fs)) (cl:lU K C) (ha:PySem.W.findIn K (.ref C) "__class__"= some (some (.builtin "object.__class__")))
   (hn:PySem.W.specialIn K (.builtin "object.__class__") "__get__"= some (some (.builtin "getset_descriptor.__get__"))) (htk:PySem.W.takesIn K (.builtin "object.__class__")=some true)
   (hm:PySem.W.mroIn K C (.type "object")=some true):gQ K H (.ref a) (.ref C)
def GH(I:Inv X pins σ H s)(d:RelV x u)(m:gQ X.K H x t)(e:PySem.W.kitOne X.K t c=some b)(h:∀tk,Q (.bool b) {s with toks:=tk}) :
  wpAny (model X.prog X.w) A (call (.builtin "isinstance") [u,c]) Q E s:=by
 cases m with
 | de=>cases(show u=Value.none from d);exact PySem.W.kia_one PySem.W.kitx_none I.fH True.intro e (λz=>nomatch z) h
 | bl y=>cases(show u=Value.bool y from d);exact PySem.W.kia_one PySem.W.kitx_bool I.fH True.intro e (λz=>nomatch z) h
 | int i=>let⟨t,q⟩:=(show∃t,u=Value.int i t from d);cases q;exact PySem.W.kia_one PySem.W.kitx_int I.fH True.intro e (λz=>nomatch z) h
 | str y=>let⟨t,q⟩:=(show∃t,u=Value.str y t from d);cases q;exact PySem.W.kia_one PySem.W.kitx_str I.fH True.intro e (λz=>nomatch z) h
 | pz y=>let⟨t,q⟩:=(show∃t,u=Value.float y t from d);cases q;exact PySem.W.kia_one PySem.W.kitx_float I.fH True.intro e (λz=>nomatch z) h
 | @lst a g ea=>
  cases(show u=Value.ref a from d);let⟨Z,Z,n,Z,f⟩:=(show cD X.prog X.w H s.heap a (.lst g)from I.cL a _ ea)
  exact PySem.W.kia_one PySem.W.kitx_list I.fH ⟨_,f,rfl⟩ e (λz=>nomatch z) h
 | @lZ a ob g ea=>
  cases(show u=Value.ref a from d);let⟨Z,Z,Z,n,Z,f⟩:=(show cD X.prog X.w H s.heap a (.lZ ob (.lst g))from I.cL a _ ea)
  exact PySem.W.kia_one PySem.W.kitx_list I.fH ⟨_,f,rfl⟩ e (λz=>nomatch z) h
 | @tup a g ea=>
  cases(show u=Value.ref a from d);let⟨Z,Z,Z,p⟩:=(show cD X.prog X.w H s.heap a (.tup g)from I.cL a _ ea)
  let⟨o,f,j,Z⟩:=p;exact PySem.W.kia_one PySem.W.kitx_tuple I.fH ⟨o,f,j⟩ e (λz=>nomatch z) h
 | @dK a kvs ea=>
  cases(show u=Value.ref a from d);let⟨Z,Z,w,Z,p⟩:=(show cD X.prog X.w H s.heap a (.dK kvs)from I.cL a _ ea)
  let⟨o,l,k,f,j,Z⟩:=p;exact PySem.W.kia_one PySem.W.kitx_dict I.fH ⟨o,f,j.1⟩ e (λz=>nomatch z) h
 | @dT a kvs ea=>
  cases(show u=Value.ref a from d);let⟨Z,Z,g,Z,o,l,k,f,j,Z⟩:=(show cD X.prog X.w H s.heap a (.dT kvs)from I.cL a _ ea)
  exact PySem.W.kia_one PySem.W.kitx_dict I.fH ⟨o,f,j.1⟩ e (λz=>nomatch z) h
 | @ins a C dx fs ea cl ha hn htk hm=>
  cases(show u=Value.ref a from d);let⟨r,O,Z⟩:=Wj I.cL ea;let⟨v,J,Z⟩:=O.look;exact PySem.W.kia_one (PySem.W.kitx_own (cl.get _) cl.hd ha hn htk hm) I.fH J e (λz=>nomatch z) h
end
structure dB(k:Nat)(A:Around):Prop where
 hd:A.handled=none
 dp:A.depth+3*k+5<recursionLimit
 un:A.units+16*k+200<cLine
def dB.mono(r:dB k A)(h:j<=k):dB j A:=⟨r.hd,by have:=r.dp;lia,by have:=r.un;lia⟩
def dB.deeper(r:dB (k+1) A)(env:Env):dB k (A.deeper env):=
 ⟨r.hd,by have:=r.dp;show A.depth+1+3*k+5<_;lia,by have:=r.un;show A.units+3+16*k+200<_;lia⟩
def Ga{A:Around}{C:Addr}{us:L9}{a:List (Str×Value)}:(A.under (.builtin "type.__call__" ⟨.ref C::us,a⟩)).depth=A.depth+1:=by
 first | rfl | simp[Around.under,Code.weight,Code.isCreation,Code.isGuard,Code.isCaller,Code.frames,Code.isFrame,guardIds]
def Gb{A:Around}{C:Addr}{us:L9}{a:List (Str×Value)}:(A.under (.builtin "type.__call__" ⟨.ref C::us,a⟩)).units=A.units+1:=by
 first | rfl | simp[Around.under,Code.cUnits,Code.frames,Code.isFrame]
def dB.make(r:dB (k+1) A)(C:Addr)(us:L9)(a:List (Str×Value)):dB k (A.under (.builtin "type.__call__" ⟨.ref C::us,a⟩)):=
 ⟨r.hd,by have:=r.dp;rw[Ga];lia,by have:=r.un;rw[Gb];lia⟩
def dB.depth(r:dB k A):A.depth<recursionLimit:=by have:=r.dp;lia
def dB.units(r:dB k A):A.units+64<cLine:=by have:=r.un;lia
def rS:TA:=λj H Q=>Q [] H
def pN(ta:TE)(tr:TA):TA:=λσ H Q=>ta σ H λx H1=>tr σ H1 λxs H2=>Q (x::xs) H2
section
variable{X:Cx}{e:Expr}{es:Nt}{te:TE}{t:TA}{pos:Pos}
def jc:PA X [] rS:=λj j j j H Q I h=>Calls.spliced_nil ⟨[],H,I,.nil,h⟩
def ja(j:PE X e te)(k:PA X es t)(l:starEach (e::es) X.env=(false,eval e X.env)::starEach es X.env:=by rfl):PA X (e::es) (pN te t):=by
 intro b a s c H Q I h;rw[l];show wpAny _ _ (spliced ((false,eval e X.env)::backTo b (starEach es X.env))) _ _ s;refine Calls.spliced_cons (cN (j a s c H _ I h) λu q z_=>?_);obtain⟨x,d,g,o,m⟩:=z_;refine cN (k b a q c d _ g m) λw v z_=>?_;let⟨r,f,i,p,n⟩:=z_;exact⟨x::r,f,i,.cons o p,n⟩
def uk(t:TA):TE:=λσ H Q=>t σ H λxs H1=>⇑xs<=sizeLine/\∀p,H1 p=none->Q (.ref p) (upd H1 p (.tup xs))
def tX(t:TA):TE:=λσ H Q=>t σ H λxs H1=>⇑xs<=sizeLine/\∀p,H1 p=none->Q (.ref p) (upd H1 p (.lst xs))
def jH{x1}(h:PA X es t):PE X (.Tuple es x1 pos) (uk t):=by
 intro a s l H Q I i;refine wpAny_Tuple_spliced (cN (h pos a s l H _ I i) λj c ⟨k,d,f,r,z,q⟩=>⟨by rw[<-⇑r];exact z,?_⟩);have g:d c.heap.objs.size=none:=f.cL.fresh (vb _);refine⟨.ref c.heap.objs.size,upd d c.heap.objs.size (.tup k),f.laid (t':=c.toks) (λb u e=>vJ _ e) (vb _) ?_,rfl,q _ g⟩;exact⟨z,j,r,⟨_,Heap.get?_push_size _ rfl,rfl,_,rfl⟩⟩
def jO(h:PA X es t):PE X (.List es pos) (tX t):=by
 intro a s l H Q I i;refine wpAny_List_spliced (cN (h pos a s l H _ I i) λj c ⟨k,d,f,r,z,q⟩=>⟨by rw[<-⇑r];exact z,?_⟩);have g:d c.heap.objs.size=none:=f.cL.fresh (vb _);refine⟨.ref c.heap.objs.size,upd d c.heap.objs.size (.lst k),f.laid (t':=c.toks) (λb u e=>vJ _ e) (vb _) ?_,rfl,q _ g⟩;exact⟨z,j,0,r,Heap.get?_push_size _ rfl⟩
end
noncomputable abbrev Sp:=N2->Hp->VK->XK->Prop
noncomputable abbrev m6:=List Env->Hp->Shared->XK->Value->Shared->Prop
structure mh(P:Program)(w:World)(K:cG)(mg:Nw)(base:Heap)(A:Around)(outer:Nr)(s:Shared)(H:Hp):Prop where
 frames:A.frames=some outer
 mod:Mod K mg base
 bs:∀b o,base.get? b=some o->s.heap.get? b=some o/\H b=none
 nJ:base.objs.size<=s.heap.objs.size
 gE:s.heap.FunFrames base outer
 oJ:∀b∈fz outer,H b=none
 cL:fy P w H s.heap
 bare:AllBare s.gens
def CE(outer:Nr)(P:Program)(w:World)(H:Hp)(s:Shared)(Q:VK)(u:Value)(s':Shared):Prop:=
 ∃v H',s'.os=s.os/\AllBare s'.gens/\Un (fz outer) [] H H' s.heap s'.heap/\fy P w H' s'.heap/\RelV v u/\Q v H'
def CR(CX:m6)(outer:Nr)(P:Program)(w:World)(H:Hp)(s:Shared)(Q:VK)(E:XK)(r:Result)(s':Shared):Prop:=
 match r with
 | .ok (.ret u)=>CE outer P w H s Q u s'
 | .ok _=>False
 | .error e=>CX outer H s E e s'
structure dO(P:Program)(w:World)(K:cG)(mg:Nw)(base:Heap)(CX:m6)(k:Nat)(f:Addr)(fd:FuncData)(ps:L8)(sp:Sp):Prop where
 len:∀vs H Q E,sp vs H Q E->⇑vs=⇑ps
 run:∀(A:Around) (outer:Nr) (s:Shared) (H:Hp) (args:Args) (us:L9) (vs:N2) (Q:VK) (E:XK),dB k A->mh P w K mg base A outer s H->BindsTo s fd args (ps.zip us)->Vals vs us->sp vs H Q E->
  codeAny (model P w) A (.call (.ref f) args) (CR CX outer P w H s Q E) s
def dO.mono{P:Program}{w:World}{K:cG}{e:Nw}{a:Heap}{CX:m6}{j k:Nat}{f:Addr}{d:FuncData}{ps:L8}{sp:Sp}(F:dO P w K e a CX j f d ps sp)(h:j<=k) :
  dO P w K e a CX k f d ps sp:=⟨F.len,λA b s H c i l Q E g=>F.run A b s H c i l Q E (g.mono h)⟩
def mh.make{P:Program}{w:World}{K:cG}{c:Nw}{b:Heap}{A:Around}{a:Nr}{s:Shared}{H:Hp}(e:mh P w K c b A a s H)(C:Addr)(us:L9)(d:List (Str×Value)) :
  mh P w K c b (A.under (.builtin "type.__call__" ⟨.ref C::us,d⟩)) a s H:=⟨by first | exact e.frames | (simpa [Around.under,Code.envs,Code.isFrame,pushEnvs]using e.frames),e.mod,e.bs,e.nJ,e.gE,e.oJ,e.cL,e.bare⟩
section
variable{X:Cx}{pins:Ny}{σ:St}{H:Hp}{s s':Shared}
def Inv.ry(I:Inv X pins σ H s):mh X.prog X.w X.K X.mg X.base X.A X.stack s H:=
 ⟨I.ok.frames,I.ok.mod,I.bs,vW I.ok.nJ I.sz,I.stack,I.iz,I.cL,I.bare⟩
def Inv.after(I:Inv X pins σ H s)(h:CE X.stack X.prog X.w H s Q u s'):EP X pins σ Q u s':=by
 let⟨v,f,j,a,k,c,r,q⟩:=h;let⟨i,g,d,t,e⟩:=s';obtain rfl:e=s.os:=j;exact⟨v,f,I.call (h':=i) (g':=g) (d':=d) (t':=t) (ch:=[]) k c a (λb z=>ub z (by simp)),r,q⟩
end
def nY(sp:Sp)(dvs:N2)(E:XK)(t:TA):TE:=λσ H Q=>t σ H λvs H1=>sp (vs++dvs) H1 Q E
def oj(C:Addr)(m:Str)(sp:Sp)(dvs:N2)(E:XK)(ta:TE)(t:TA):TE:=λσ H Q=>ta σ H λx H1=>∃a dx fs,x = .ref a/\H1 a=some (.ins C dx fs)/\fs.lookup m=none/\
 t σ H1 λvs H2=>sp (x::(vs++dvs)) H2 Q E
def pR(C:Addr)(sp:Sp)(dvs:N2)(E:XK)(t:TA):TE:=λσ H Q=>t σ H λvs H1=>∀x dx,H1 x=none->H1 dx=none->dx≠x->
 sp (.ref x::(vs++dvs)) (upd (upd H1 dx (.own x)) x (.ins C dx [])) (λv H2=>v = .de/\Q (.ref x) H2) E
def Binds(K:cG)(fd:FuncData)(ps:L8)(ds:L9):Prop:=
 ∀(s:Shared) (us:L9),K.In s.heap->⇑(us++ds)=⇑ps->BindsTo s fd ⟨us,[]⟩ (ps.zip (us++ds))
def Binds.all{K:cG}{a:FuncData}{ps:L8}(h:∀us:L9,⇑us=⇑ps->bindArgs a ⟨us,[]⟩=pure (ps.zip us)):Binds K a ps []:=λs us j b=>by
 rw[append_nil]at b|-;exact .of_eq (h us b)
def Passes(CX:m6)(X:Cx)(E:XK):Prop:=∀(pins:Ny) (σ:St) (H:Hp) (s:Shared) (e:Value) (s':Shared),Inv X pins σ H s->CX X.stack H s E e s'->X.xe e s'
section
variable{X:Cx}{CX:m6}{k:Nat}{f C:Addr}{fd:FuncData}{ps:L8}{sp:Sp}{dvs:N2}{ds:L9}{E:XK}{x m:Str}{p pos apos:Pos}{e o:Expr}{es:Nt}{ta:TE}{t:TA}
def AL{b:St}{H:Hp}(F:dO X.prog X.w X.K X.mg X.base CX k f fd ps sp)(j:dB k X.A)(d:Binds X.K fd ps ds)(g:Vals dvs ds)(l:Passes CX X E)
  (I:Inv X pins b H s) (r:Vals vs us) (h:sp (vs++dvs) H Q E):wpAny (model X.prog X.w) X.A (call (.ref f) us) (EP X pins b Q) X.xe s:=by
 have c:Vals (vs++dvs) (us++ds):=r.append g;have i:⇑(us++ds)=⇑ps:=by rw[<-⇑c];exact F.len _ _ _ _ h
 refine wpAny_call (codeAny_mono (F.run X.A X.stack s H ⟨us,[]⟩ (us++ds) (vs++dvs) Q E j I.ry (d s us I.fH i) c h) λr m a=>?_);cases r with
 | error e=>exact l pins b H s e m I a
 | ok fl=>
  cases fl with
  | ret u=>exact I.after a
  | next=>exact False.elim a
  | brk=>exact False.elim a
  | cont=>exact False.elim a
def DI(F:dO X.prog X.w X.K X.mg X.base CX k f fd ps sp)(u:dB k X.A)(m:Gl X x)(o:X.mg x=↥f)(n:PySem.W.keepIn X.K (.ref f)=true)(i:Binds X.K fd ps ds)(j:Vals dvs ds)(v:Passes CX X E)
  (g:PA X (e::es) t) (b:(x==("__debug__" : Str))=false:=by decide) (l:starEach (e::es) X.env=(false,eval e X.env)::starEach es X.env:=by rfl) (c:(backTo pos (starEach es X.env)).any (·.1)=false:=by rfl) :
  PE X (.Call (.Name x p) (e::es) [] pos) (nY sp dvs E t):=by
 intro a s w H Q I h;refine wpAny_Call_Name_kw (ZP I m o ?_ b);refine PySem.W.callWith_K (h₀:=X.base) I.ok.mod.pG n (cN (g pos a s w H _ I h) λB z z_=>?_) l c;let⟨C,y,d,r,q⟩:=z_;refine⟨d.fH,?_⟩;exact AL F u i j v d r q
def ZR(G:PE X o ta)(c:lU X.K C)(n:Meth X.K C m f)(F:dO X.prog X.w X.K X.mg X.base CX k f fd ps sp)(J:dB k X.A)(B:Binds X.K fd ps ds)(D:Vals dvs ds)(L:Passes CX X E)(z:PA X (e::es) t)
  (g:starEach (e::es) X.env=(false,eval e X.env)::starEach es X.env:=by rfl) (d:(backTo pos (starEach es X.env)).any (·.1)=false:=by rfl)
  (K:eval (.Call (.Attribute o m apos) (e::es) [] pos) X.env=(do
   let ov <-eval o X.env
   standAt apos.atName
   let (f,first) <-holding [ov] (getMethod ov m pl)
   callWith pos f first (backTo pos (starEach (e::es) X.env)) (backToKw pos (keywordEach [] X.env))):=by rfl) :
  PE X (.Call (.Attribute o m apos) (e::es) [] pos) (oj C m sp dvs E ta t):=by
 intro b s p H Q I h;refine PySem.W.methodCall_KW (pl:=pl) (cN (G b s p H _ I h) λu O z_=>?_) K;obtain⟨x,v,i,N,a,R,S,y,w,l,q⟩:=z_;subst y;obtain rfl:u=Value.ref a:=N;refine kH i w c n l ?_;refine PySem.W.callWith_K (first:=[.ref a]) (h₀:=X.base) I.ok.mod.pG n.kp (cN (z pos b O p v _ i q) λus T z_=>?_) g d;let⟨vs,P,j,r,M⟩:=z_;refine⟨j.fH,?_⟩;exact AL (us:=.ref a::us) (vs:=.ref a::vs) F J B D L j (.cons rfl r) M
def qQ{pl:Sem Bool}(p:PE X o ta)(c:lU X.K C)(e:Meth X.K C m f)(F:dO X.prog X.w X.K X.mg X.base CX k f fd ps sp)(r:dB k X.A)(j:Binds X.K fd ps ds)(n:Vals dvs ds)(v:Passes CX X E)
  (t:eval (.Call (.Attribute o m apos) [] [] pos) X.env=(do
   let ov <-eval o X.env
   standAt apos.atName
   let (f,first) <-holding [ov] (getMethod ov m pl)
   callWith pos f first (backTo pos (starEach [] X.env)) (backToKw pos (keywordEach [] X.env))):=by rfl) :
  PE X (.Call (.Attribute o m apos) [] [] pos) (oj C m sp dvs E ta rS):=by
 intro b s y H Q I h;refine PySem.W.methodCall_KW (pl:=pl) (cN (p b s y H _ I h) λu G z_=>?_) t;obtain⟨x,z,d,w,a,B,D,i,g,l,q⟩:=z_;subst i;obtain rfl:u=Value.ref a:=w;refine kH d g c e l ?_;exact PySem.W.callWith_K0 (first:=[.ref a]) d.fH e.kp (AL (us:=[.ref a]) (vs:=[.ref a]) F r j n v d (.cons rfl .nil) q)
structure Mk(K:cG)(C f:Addr):Prop where
 makes:PySem.W.makesIn K C=true
 init:PySem.W.findIn K (.ref C) "__init__"= some (↥f)
 fn:PySem.W.isFn K (.ref f)=true
 kp:PySem.W.keepIn K (.ref C)=true
def IY{c:St}{H:Hp}(M:Mk X.K C f)(F:dO X.prog X.w X.K X.mg X.base CX k f fd ps sp)(p:dB (k+1) X.A)(m:Binds X.K fd ps ds)(n:Vals dvs ds)
  (q:Passes CX X E) (I:Inv X pins c H s) (r:Vals vs us)
  (h:∀x dx,H x=none->H dx=none->dx≠x->sp (.ref x::(vs++dvs)) (upd (upd H dx (.own x)) x (.ins C dx [])) (λv H2=>v = .de/\Q (.ref x) H2) E) :
  wpAny (model X.prog X.w) X.A (call (.ref C) us) (EP X pins c Q) X.xe s:=by
 have d:=h (s.heap.objs.size+1) s.heap.objs.size (I.cL.fresh (Nat.le_succ _)) (I.cL.fresh (vb _)) (vE (Nat.lt_succ_self _));have b:=Inv.made (C:=C) I;have g:Vals (V.ref (s.heap.objs.size+1)::(vs++dvs)) (Value.ref (s.heap.objs.size+1)::(us++ds)):=.cons rfl (r.append n);have o:⇑(Value.ref (s.heap.objs.size+1)::us++ds)=⇑ps:=by
  have e:=⇑g;rw[F.len _ _ _ _ d]at e;exact e.symm
 refine wpAny_call (HV (f:=f) I.fH M.makes M.init (beq_iff_eq.mp M.fn) (codeAny_mono (F.run _ X.stack _ _ ⟨Value.ref (s.heap.objs.size+1)::us,[]⟩ (Value.ref (s.heap.objs.size+1)::(us++ds)) _ _ E (p.make C us [])
  (b.ry.make C us []) (m _ (Value.ref (s.heap.objs.size+1)::us) b.fH o) g d) λr y a=>?_))
 cases r with
 | error e=>exact q pins c _ _ e y b a
 | ok fl=>
  cases fl with
  | ret u=>
   let⟨v,i,j,w,l,t⟩:=b.after a;subst l;exact⟨w,⟨V.ref (s.heap.objs.size+1),i,j,rfl,t⟩⟩
  | next=>exact False.elim a
  | brk=>exact False.elim a
  | cont=>exact False.elim a
def Wm(M:Mk X.K C f)(F:dO X.prog X.w X.K X.mg X.base CX k f fd ps sp)(o:dB (k+1) X.A)(m:Gl X x)(n:X.mg x=↥C)(i:Binds X.K fd ps ds)(j:Vals dvs ds)(u:Passes CX X E)
  (g:PA X (e::es) t) (b:(x==("__debug__" : Str))=false:=by decide) (l:starEach (e::es) X.env=(false,eval e X.env)::starEach es X.env:=by rfl) (c:(backTo pos (starEach es X.env)).any (·.1)=false:=by rfl) :
  PE X (.Call (.Name x p) (e::es) [] pos) (pR C sp dvs E t):=by
 intro a s v H Q I h;refine wpAny_Call_Name_kw (ZP I m n ?_ b);refine PySem.W.callWith_K (h₀:=X.base) I.ok.mod.pG M.kp (cN (g pos a s v H _ I h) λz y z_=>?_) l c;let⟨B,w,d,r,q⟩:=z_;refine⟨d.fH,?_⟩;exact IY M F o i j u d r q
end
structure ck(N P:L8)(sc:Scope):Prop where
 kind:sc.kind = .function
 co:sc.isCoroutine=false
 gen:sc.isGenerator=false
 nd:N.Nodup
 pre:N.take ⇑P=P
 par:∀x∈P,sc.names.lookup x=some .local\/sc.names.lookup x=some .cell
 rG:∀y∈sc.names,y.2≠.free
theorem Xh{b:Str->Option NameKind}:∀{a:List (Str×Value)} {m:Nw},(∀v,(x,v)∉a)->bindL b a m x=m x
 | [],_,_=>rfl
 | (n,v)::r,m,h=>by
  unfold bindL;rw[Xh λw c=>h w (vp _ c)];split
  .have:x≠n:=by rintro rfl;exact h v vq
   simp[this]
  .rfl
theorem Xf{b:Str->Option NameKind}:∀{a:List (Str×Value)} {m:Nw},(∀v,(x,v)∉a)->bindC b a m x=m x
 | [],_,_=>rfl
 | (n,v)::r,m,h=>by
  unfold bindC;rw[Xf λw c=>h w (vp _ c)];split
  .rfl
  .have:x≠n:=by rintro rfl;exact h v vq
   simp[this]
theorem Xg{a:Str->Option NameKind}:∀{P:L8} {vs:L9} {i:Nat} {m:Nw},P.Nodup->P[i]?=some x->vs[i]?=some v->a x=some .local->
  bindL a (P.zip vs) m x=some v
 | [],_,_,_,_,h,_,_=>by simp at h
 | _::_,[],_,_,_,_,h,_=>by simp at h
 | p::P,w::vs,0,m,nd,h1,h2,hk=>by
  simp at h1 h2;subst h1;subst h2;show bindL a ((p,w)::P.zip vs) m p=_;unfold bindL;rw[Xh λv b=>(ug.mp nd).1 (of_mem_zip b).1,vd hk];simp
 | p::P,w::vs,i+1,m,nd,h1,h2,hk=>by
  show bindL a ((p,w)::P.zip vs) m x=_;unfold bindL;exact Xg (i:=i) (ug.mp nd).2 #v[h1] #v[h2] hk
theorem Xe{a:Str->Option NameKind}:∀{P:L8} {vs:L9} {i:Nat} {m:Nw},P.Nodup->P[i]?=some x->vs[i]?=some v->a x≠some .local->
  bindC a (P.zip vs) m x=some v
 | [],_,_,_,_,h,_,_=>by simp at h
 | _::_,[],_,_,_,_,h,_=>by simp at h
 | p::P,w::vs,0,m,nd,h1,h2,hk=>by
  simp at h1 h2;subst h1;subst h2;show bindC a ((p,w)::P.zip vs) m p=_;unfold bindC;rw[Xf λv b=>(ug.mp nd).1 (of_mem_zip b).1,vc hk];simp
 | p::P,w::vs,i+1,m,nd,h1,h2,hk=>by
  show bindC a ((p,w)::P.zip vs) m x=_;unfold bindC;exact Xe (i:=i) (ug.mp nd).2 #v[h1] #v[h2] hk
noncomputable def start(N:L8)(vs:N2):St:=vs.map some++List.replicate (⇑N-⇑vs) none
noncomputable def dJ(CX:m6)(P:Program)(w:World)(K:cG)(mg:Nw)(base:Heap)(N:L8)(qual:Str)(scope:Scope)(f:Addr)(cd:Value)(A:Around)(outer:Nr)(s:Shared)(H:Hp)(E:XK):Cx where
 prog:=P
 w:=w
 K:=K
 mg:=mg
 base:=base
 A:=A.deeper (envOfC qual scope s.heap.objs.size f cd)
 N:=N
 s₀:=s
 H₀:=H
 env:=envOfC qual scope s.heap.objs.size f cd
 outer:=outer
 stack:=envOfC qual scope s.heap.objs.size f cd::outer
 ex:=[]
 calm:=true
 fn:=λj=>true
 pn:=[]
 xe:=λe s'=>wpAny (model P w) (A.deeper (envOfC qual scope s.heap.objs.size f cd)) (leaving (envOfC qual scope s.heap.objs.size f cd) e) (λj s''=>CX outer H s E e s'') (λe' s''=>CX outer H s E e' s'') s'
def BW{a:Scope}{n:Nat}{x:Str}(h:a.names.lookup x=some .cell):∃c,(cellsFrom n a.names []).lookup x=some c:=by
 have q:=PySem.W.cellsFrom_some a.names n [] (.inl h);exact Option.isSome_iff_exists.mp q
def Xs{CX:m6}{P:Program}{w:World}{K:cG}{J:Nw}{m:Heap}{N ps:L8}{j:Str}{d:Scope}{f:Addr}{F:Value}{A:Around}{g:Nr}{s O:Shared}{H:Hp}{E:XK}{us:L9}{vs:N2}
  (S:ck N ps d) (R:A.handled=none) (o:mh P w K J m A g s H) (X:⇑vs=⇑ps) (r:Vals vs us)
  (x:InCallC s s.heap.objs.size (bindL (envOfC j d s.heap.objs.size f F).kindOf (ps.zip us) λZ=>none) (cellsFrom (s.heap.objs.size+1) d.names []) (bindC (envOfC j d s.heap.objs.size f F).kindOf (ps.zip us) λZ=>none) O) :
  Inv (dJ CX P w K J m N j d f F A g s H E) [] (start N vs) H O:=by
 have T:⇑ps<=⇑N:=by have:=congrArg List.length S.pre;rw[vi]at this;lia
 let⟨G,Y,rfl,L⟩:=x.done;have B:∀b:Addr,b∉(dJ CX P w K J m N j d f F A g s H E).ex:=λb z=>ub (show b∈([]:L7)from z) (by simp)
 refine⟨⟨o.mod,S.kind,rfl,rfl,vb _,λy z c G l=>?_,λy t=>?_,λy c Z h=>?_,λZ=>R,Around.frames_deeper o.frames,.inr ⟨rfl,rfl⟩,λb z=>ub z (B b),o.bs,o.nJ,λb Z Z=>B b,λb z=>ub z (B b),o.gE,o.oJ⟩,
  rfl,o.bare,Un.kept L,⟨_,x.toInCall.ns,λi y v G l W=>?_⟩,λy c h=>⟨_,x.cell y c h⟩,o.cL.fresh (vb _),λy c h=>?_,λp C=>ub (show p∈([]:Ny)from C) (by simp),o.cL.kept L,?_⟩
 .exact name_of_addr x.apart (PySem.mem_of_lookup G) (PySem.mem_of_lookup l)
 .have t:d.names.lookup y=some .cell\/d.names.lookup y=some .free:=t;rcases t with t | t
  .exact BW t
  .exact ub rfl (S.rG _ (PySem.mem_of_lookup t))
 .exact vY (x.above y c (PySem.mem_of_lookup h))
 .have I:i<⇑vs:=by
   unfold start at l;by_cases I:i<⇑vs
   .exact I
   .rw[vC #v[I]]at l;rw[List.getElem?_replicate]at l;split at l<;>cases l
  have Q:vs[i]?=some v:=by
   unfold start at l;rw[vB #v[I],vv]at l;cases e:vs[i]? with
   | none=>rw[e]at l;cases l
   | some a=>rw[e]at l;cases l;rfl
  let⟨u,M,U⟩:=r.get Q;have C:ps[i]?=some y:=by
   rw[<-S.pre,List.getElem?_take_of_lt ⋯];exact G
  have D:ps.Nodup:=by rw[<-S.pre];exact S.nd.sublist (take_sublist _ _)
  refine⟨u,U,?_⟩;rcases S.par y (vm C)with k | k
  .exact .inl ⟨k,Xg D C M k⟩
  .let⟨c,e⟩:=BW (n:=s.heap.objs.size+1) k;refine .inr ⟨.inl k,c,e,?_⟩;have q:=x.cell y c e;rw[Xe D C M (by show d.names.lookup y≠_;rw[k];decide)]at q;exact q
 .exact o.cL.fresh (vY (x.above y c (PySem.mem_of_lookup h)))
 .unfold start;show _=⇑N
  simp_all
def Nm{CX:m6}{P:Program}{w:World}{K:cG}{G:Nw}{g:Heap}{k:Nat}{f:Addr}{name c:Str}{i:Arguments}{j:List Stmt}{a:Scope}{Z kV B pm d Y oc:Value}{an od:Option Addr}
  {R:Array (Nv)} {N ps:L8} {sp:Sp} (lk:K.lookup f=some ⟨oc,od,.func (PySem.W.fnOf name c i j a Z kV B pm an d Y),R⟩) (L:PySem.W.codeIn K d c=true) (S:ck N ps a)
  (len:∀vs H Q E,sp vs H Q E->⇑vs=⇑ps)
  (m:∀(A:Around) (outer:Nr) (s:Shared) (H:Hp) (vs:N2) (Q:VK) (E:XK),dB k (A.deeper (envOfC c a s.heap.objs.size f d))->sp vs H Q E->
   ∃t,i5 (dJ CX P w K G g N c a f d A outer s H E) j t/\t {nx:=λ_ H'=>Q .de H',rt:=Q} (start N vs) H) :
  dO P w K G g CX (k+1) f (PySem.W.fnOf name c i j a Z kV B pm an d Y) ps sp:=by
 refine⟨len,λA outer s H X us vs Q E M C hb r F=>?_⟩;have hl:=len _ _ _ _ F;have W:K.In s.heap:=C.mod.pG.keeps λb o e=>(C.bs b o e).1
 have O:s.heap.NoLimit:=C.mod.nolimit.keeps λb o e=>(C.bs b o e).1
 have p:∀y∈ps.zip us,a.names.lookup y.1=some .local\/(a.names.lookup y.1=some .cell/\((cellsFrom (s.heap.objs.size+1) a.names []).lookup y.1).isSome=true):=λ⟨n,v⟩ hy=>by
  rcases S.par n (of_mem_zip hy).1 with q | q
  .exact .inl q
  .exact .inr ⟨q,PySem.W.cellsFrom_some _ _ _ (.inl q)⟩
 refine codeAny_call_function M.depth (W _ _ lk) rfl S.co S.gen rfl (PySem.W.codeRec_of W L) (hb _ _ _ _ ?_);refine wpAny_newFunctionEnv_cells S.kind p λa0 he s1 x=>?_
 subst he;refine⟨O.keeps x.toInCall.keep,codeAny_func ?_⟩;let⟨t,ht,hq⟩:=m A outer s H vs Q E (M.deeper _) F;have I:Inv (dJ CX P w K G g N c a f d A outer s H E) [] (start N vs) H s1:=Xs S M.hd C hl r x;refine wpAny_mono (ht [] s1 (start N vs) H _ I hq) (λfl U z=>?_) λe U z=>z
 have D:∀{l:St} {H':Hp} {v:V} {u:Value},Inv (dJ CX P w K G g N c a f d A outer s H E) [] l H' U->RelV v u->Q v H'->CE outer P w H s Q u U:=
  λ{l H' v u} J T q=>⟨v,H',J.os,J.bare,J.base,J.cL,T,q⟩
 cases fl with
 | ret u=>
  let⟨v,l,H',J,T,q⟩:=z;exact D J T q
 | next=>
  let⟨l,H',J,q⟩:=z;exact D (v:=V.de) (u:=Value.none) J rfl q
 | brk=>
  let⟨_,_,_,q⟩:=z;exact False.elim q
 | cont=>
  let⟨_,_,_,q⟩:=z;exact False.elim q
section
variable{X:Cx}{x:Str}{p pos:Pos}{e:Expr}{es:Nt}{t:TA}{id T:String}{r:N2->Hp->VK->Prop}
def BF(r:N2->Hp->VK->Prop)(t:TA):TE:=λσ H Q=>t σ H λvs H1=>r vs H1 Q
def jE(j:dE X (.builtin id) r)(l:Gl X x)(m:X.mg x=none)(o:bootBuiltins x=some (.builtin id))(i:PA X (e::es) t)(n:x≠"__name__":=by decide)(b:(x==("__debug__" : Str))=false:=by decide)
  (k:starEach (e::es) X.env=(false,eval e X.env)::starEach es X.env:=by rfl) (c:(backTo pos (starEach es X.env)).any (·.1)=false:=by rfl):PE X (.Call (.Name x p) (e::es) [] pos) (BF r t):=by
 intro a s d H Q I h;refine wpAny_Call_Name_kw (Z2 I l m o ?_ n b);refine PyProof.Rows.callWith_builtin1 (cN (i pos a s d H _ I h) λw v z_=>?_) k c;let⟨y,f,g,u,q⟩:=z_;exact j a v d f y w Q g u q
def Jn(j:dE X (.type T) r)(l:Gl X x)(m:X.mg x=none)(o:bootBuiltins x=some (.type T))(i:PA X (e::es) t)(n:x≠"__name__":=by decide)(b:(x==("__debug__" : Str))=false:=by decide)
  (k:starEach (e::es) X.env=(false,eval e X.env)::starEach es X.env:=by rfl) (c:(backTo pos (starEach es X.env)).any (·.1)=false:=by rfl):PE X (.Call (.Name x p) (e::es) [] pos) (BF r t):=by
 intro a s d H Q I h;refine wpAny_Call_Name_kw (Z2 I l m o ?_ n b);refine PyProof.Rows.callWith_type1 (cN (i pos a s d H _ I h) λw v z_=>?_) k c;let⟨y,f,g,u,q⟩:=z_;exact j a v d f y w Q g u q
end
end L2
namespace HT
open PySem PyProof.Rows
section
variable{prog:Program}{w:World}{A:Around}{E:Nz}{s:Shared}
def IB{t b:Addr}{vs a:L9}{Q:Nz}(z:IsTup s.heap t vs.toArray)(y:IsTup s.heap b a.toArray)(q:vs≠[])
  (v:a=[]->Q (.ref t) s) (x:a≠[]->Q (.ref s.heap.objs.size) {s with heap:=s.heap.push {cls:=.type "tuple",data:=.seq (vs++a).toArray}})
  (hsz:⇑vs+⇑a<=sizeLine):wpAny (model prog w) A (binaryOp .Add (.ref t) (.ref b)) Q E s:=by
 let⟨⟨cls,m,data,u⟩,i,o,n,p⟩:=id z;let⟨⟨l,d,k,h⟩,c,f,r,g⟩:=id y;simp only at o p f g;subst o p f g;have e:vs.toArray++a.toArray=(vs++a).toArray:=by simp
 by_cases j:a=[]
 .exact concat_meets ⟨_,i,rfl⟩ ⟨_,c,rfl⟩ noFill_tuple_add seq_tuple_add PySem.F.slot_tuple_add PySem.F.entry_tuple_add (PySem.F.args_tuple_add_2 _ _)
   (tuple_addW1 t b vs.toArray a.toArray n r m d u h #v[q] (by simp[j])) ⟨i,c,v j⟩
 .refine concat_meets ⟨_,i,rfl⟩ ⟨_,c,rfl⟩ noFill_tuple_add seq_tuple_add PySem.F.slot_tuple_add PySem.F.entry_tuple_add (PySem.F.args_tuple_add_2 _ _)
   (tuple_addW2 t b vs.toArray a.toArray n r m d u h #v[q] #v[j] (by simp_all)) ⟨i,c,?_⟩
  rw[e];exact x j
noncomputable def du(n d:Nat):Option Int->Nat
 | none=>d
 | some v=>if v<0 then(v+(n:Int)).toNat else min v.toNat n
def CP(n d:Nat):du n d none=d:=rfl
def Dc(n d k:Nat):du n d (some (k:Int))=min k n:=by
 show(if(k:Int)<0 then((k:Int)+(n:Int)).toNat else min (k:Int).toNat n)=min k n;rw[vc ⋯,Int.toNat_natCast]
def MG(n d:Nat)(b:d<=n)(o:Nu):du n d o<=n:=by
 cases o with
 | none=>exact b
 | some v=>
  show(if v<0 then(v+(n:Int)).toNat else min v.toNat n)<=n;by_cases a:v<0
  .rw[vd a];lia
  .rw[vc a];exact Nat.min_le_right _ _
def CV(v:Int)(n d:Nat):(if v<0 then max (v+(n:Int)) 0 else min v (n:Int))=((du n d (some v):Nat):Int):=by
 show(if v<0 then max (v+(n:Int)) 0 else min v (n:Int))=(((if v<0 then(v+(n:Int)).toNat else min v.toNat n):Nat):Int)
 by_cases a:v<0
 .simp only[if_pos a];lia
 .simp only[if_neg a];lia
def FC(lo hi:Nu)(n:Nat):Builtin.Slice.sliceAdjust lo hi 1 (n:Int)=(((du n 0 lo:Nat):Int),((du n n hi:Nat):Int)):=by
 have a:¬((1:Int)<0):=⋯
 unfold Builtin.Slice.sliceAdjust;simp only[a,if_false];refine Prod.ext ?_ ?_
 .cases lo with
  | none=>rfl
  | some v=>exact CV v n 0
 .cases hi with
  | none=>rfl
  | some v=>exact CV v n n
def FP(i j:Nat):Builtin.Slice.slicePlaces (i:Int) (j:Int) 1=j-i:=by
 unfold Builtin.Slice.slicePlaces;have a:(1:Int)>0:=⋯
 simp only[a,if_true,Int.ediv_one];split<;>lia
def iI{Q:Option Int->Shared->Prop}(p:IsPart v o)(h:Q o s):wpAny (model prog w) A (Builtin.Slice.slicePartIndex v) Q E s:=by
 cases p with
 | none=>exact slicePart_none h
 | int i t=>exact slicePart_int h
def yv{e:Addr}{c d:Value}{lo hi:Nu}{n:Nat}{Q:Int×Int×Nat->Shared->Prop}(g:s.heap.IsSliceOf e c d .none)(pl:IsPart c lo)(i:IsPart d hi)
  (h:Q (((du n 0 lo:Nat):Int),1,du n n hi-du n 0 lo) s):wpAny (model prog w) A (Builtin.Slice.sliceApplied (.ref e) (pure (n:Int))) Q E s:=by
 let⟨j,b,f,a⟩:=id g;unfold Builtin.Slice.sliceApplied Builtin.Slice.sliceFields;refine ud (ud (wpAny_field b a (x:=c) rfl (ud (wpAny_field b a (x:=d) rfl (ud (wpAny_field b a (x:=.none) rfl (uc ?_)))))));refine ud (slicePart_none ?_);show wpAny _ _ (if((1:Int)==0)=true then _ else _) _ _ s;rw[vc nofun];refine ud (iI pl (ud (iI i (ud (uc ?_)))));show wpAny _ _ (match Builtin.Slice.sliceAdjust lo hi 1 (n:Int)with | (lo,hi)=>pure (lo,(1:Int),Builtin.Slice.slicePlaces lo hi 1)) _ _ s;rw[FC lo hi n];show wpAny _ _ (pure (((du n 0 lo:Nat):Int),(1:Int),Builtin.Slice.slicePlaces ((du n 0 lo:Nat):Int) ((du n n hi:Nat):Int) 1)) _ _ s;rw[FP];exact uc h
def HI(xs:Array Value)(i k:Nat):((List.range k).filterMap λ(m:Nat)=>xs[((i:Int)+(m:Int)*1).toNat]?).toArray=((xs.toList.drop i).take k).toArray:=by
 have e:(λ(m:Nat)=>xs[((i:Int)+(m:Int)*1).toNat]?)=λm=>xs[i+m]?:=by
  funext m;have:((i:Int)+(m:Int)*1).toNat=i+m:=⋯
  rw[this]
 rw[e];have:=pick_run xs i k;rw[List.filterMap_map]at this;have a:(Function.comp (λx=>xs[x]?) λx=>i+x)=λm=>xs[i+m]?:=rfl
 rw[a]at this;rw[this]
def Km{t g:Addr}{items:Array Value}{j k:Value}{lo hi:Nu}{Q:Nz}(b:IsTup s.heap t items)(i:s.heap.IsSliceOf g j k .none)(pl:IsPart j lo)(o:IsPart k hi)
  (hw:¬(du items.size 0 lo=0/\du items.size items.size hi=items.size))
  (h:Q (.ref s.heap.objs.size) {s with heap:=s.heap.push {cls:=.type "tuple",data:=.seq ((items.toList.drop (du items.size 0 lo)).take (du items.size items.size hi-du items.size 0 lo)).toArray}})
  (hsz:items.size<=sizeLine):wpAny (model prog w) A (getItem (.ref t) (.ref g)) Q E s:=by
 have a:sizeOk (.seq ((items.toList.drop (du items.size 0 lo)).take (du items.size items.size hi-du items.size 0 lo)).toArray):=by
  show((items.toList.drop (du items.size 0 lo)).take (du items.size items.size hi-du items.size 0 lo)).toArray.size<=sizeLine;rw[size_toArray,vi,length_drop,Array.length_toList];lia
 have p:du items.size items.size hi<=items.size:=MG _ _ (vb _) hi;let⟨n,f,d,l⟩:=id i;have c:s.TypeIs (.ref g) "slice":=⟨n,f,d⟩
 unfold getItem
 try with_reducible refine wpAny_holding ?_
 first | refine ud (uc ?_) | skip
 refine ud (wpAny_sequenceKey b.typeIs nofun ?_);refine ud (wpAny_callSpecial?_slot (name:=Str.ofString "__getitem__") b.typeIs PyProof.Rows.slot_tuple_getitem
  (wpAny_call_entry PyProof.Rows.slot_tuple_getitem b.typeIs entry_tuple_getitem ?_ (args_tuple_getitem _ _)))
 show wpAny _ _ (Builtin.Tuple.tupleItemsOf (.ref t) >>= _) _ _ s;refine ud (tupleItemsOf_ b ?_);refine ud (wpAny_typeOf c ?_);rw[vd nofun];refine ud (yv i pl o ?_);have e:¬((((du items.size 0 lo:Nat):Int)==0&&(1:Int)==1&&(du items.size items.size hi-du items.size 0 lo)==items.size)=true):=by
  intro q;rw[Bool.and_eq_true,Bool.and_eq_true]at q;have r:((du items.size 0 lo:Nat):Int)=0:=eq_of_beq q.1.1;have u:du items.size items.size hi-du items.size 0 lo=items.size:=eq_of_beq q.2;exact hw ⟨⋯,⋯⟩
 show wpAny _ _ (if(((du items.size 0 lo:Nat):Int)==0&&(1:Int)==1&&(du items.size items.size hi-du items.size 0 lo)==items.size)=true then _ else _) _ _ s;rw[vc e,HI]
 first
  | exact ud (m:=Builtin.Tuple.tupleExact _) (wpAny_newObj_type (uc ⟨_,rfl,uc h⟩) a)
  | exact ud (m:=Builtin.Tuple.tupleExact _) (wpAny_newObj_type (ud (uc (uc ⟨_,rfl,uc h⟩))) a)
  | exact ud (ud (m:=Builtin.Tuple.tupleExact _) (wpAny_newObj_type (uc (uc ⟨_,rfl,uc h⟩)) a))
  | exact ud (ud (m:=Builtin.Tuple.tupleExact _) (wpAny_newObj_type (uc ⟨_,rfl,uc h⟩) a))
end
end HT
namespace L2
open PySem PySem.Spec PyProof.Rows
noncomputable abbrev TO:=St->Hp->(Option Int->Hp->Prop)->Prop
def PO(X:Cx)(e:Option Expr)(t:TO):Prop:=
 ∀(pins:Ny) (s:Shared) (σ:St) (H:Hp) (Q:Option Int->Hp->Prop),Inv X pins σ H s->t σ H Q->
  wpAny (model X.prog X.w) X.A (evalPart e X.env) (λu s'=>∃o H',Inv X pins σ H' s'/\IsPart u o/\Q o H') X.xe s
def mK:TO:=λj H Q=>Q none H
def pT(t:TE):TO:=λσ H Q=>t σ H λx H1=>∃i,x = .int i/\Q (some i) H1
def intsAre_of:∀{us:L9},Vals (ns.map V.int) us->IntsAre us ns:=by
 induction ns with
 | nil=>intro us r;rw[map_nil]at r;cases r;exact .nil
 | cons n ns ih=>
  intro us r;rw[uw]at r;cases r with
  | cons r1 r2=>
   let⟨t,e⟩:=r1;subst e;exact .cons n t (ih r2)
section
variable{X:Cx}{e:Expr}{te:TE}{lo hi:Option Expr}{tl th:TO}{pos p2:Pos}
def Q1:PO X none mK:=by
 intro a s b H Q I h;rw[evalPart_none];exact uc ⟨none,H,I,.none,h⟩
def Qe(h:PE X e te):PO X (some e) (pT te):=by
 intro a s j H Q I d;rw[evalPart_some];refine cN (h a s j H _ I d) λu k z_=>?_;obtain⟨x,b,c,g,f⟩:=z_
 let⟨i,rfl,q⟩:=f;let⟨t,rfl⟩:=g;exact⟨some i,b,c,.int i t,q⟩
def r8(X:Cx)(r:V->Option Int->Option Int->Hp->VK->Prop):Prop:=
 ∀(pins:Ny) (s:Shared) (σ:St) (H:Hp) (x:V) (v vl vu:Value) (lo hi:Nu) (sl:Addr) (Q:VK),Inv X pins σ H s->RelV x v->s.heap.IsSliceOf sl vl vu .none->IsPart vl lo->IsPart vu hi->r x lo hi H Q->
  ∃T id,typeLookup (.type T) "__getitem__"= pure (some (.builtin id))/\s.TypeIs v T/\wpAny (model X.prog X.w) X.A (getItem v (.ref sl)) (EP X pins σ Q) X.xe s
def EX(r:V->Option Int->Option Int->Hp->VK->Prop)(te:TE)(tl th:TO):TE:=λσ H Q=>te σ H λx H1=>tl σ H1 λl H2=>th σ H2 λu H3=>r x l u H3 Q
def qR{r:V->Option Int->Option Int->Hp->VK->Prop}(A:r8 X r)(w:PE X e te)(z:PO X lo tl)(C:PO X hi th):PE X (.Subscript e (.Slice lo hi none p2) pos) (EX r te tl th):=by
 intro a s d H Q I h;refine Subscript_ (cN (w a s d H _ I h) λv L z_=>?_);obtain⟨x,j,m,K,F⟩:=z_;refine wpAny_Slice (cN (z a L d j _ m F) λf M z_=>?_);let⟨l,k,n,D,G⟩:=z_;refine cN (C a M d k _ n G) λg c z_=>?_;obtain⟨u,i,o,E,J⟩:=z_;rw[evalPart_none];refine uc ?_;have p:Inv X a d i {c with heap:=c.heap.push {cls:=.type "slice",data:=.fields #[f,g,.none]}}:=o.kept (t':=c.toks) λb O q=>vJ _ q
 let⟨T,N,t,B,y⟩:=A a {c with heap:=c.heap.push {cls:=.type "slice",data:=.fields #[f,g,.none]}} d i x v f g l u c.heap.objs.size Q p K (Heap.IsSliceOf.new ..) D E J;show wpAny (model X.prog X.w) X.A (subscriptTail e (.Slice lo hi none p2) v (.ref c.heap.objs.size)) (EP X a d Q) X.xe {c with heap:=c.heap.push {cls:=.type "slice",data:=.fields #[f,g,.none]}};exact tail_any (ops:=[.ref c.heap.objs.size,v]) B t y (by with_unfolding_all rfl)
noncomputable def fF(xs:N2)(lo hi:Nu):N2:=(xs.drop (HT.du ⇑xs 0 lo)).take (HT.du ⇑xs ⇑xs hi-HT.du ⇑xs 0 lo)
def ZM(xs:N2)(lo hi:Nu):⇑(fF xs lo hi)<=⇑xs:=by
 unfold fF;rw[vi,length_drop];lia
noncomputable def BC(K:cG):V->Option Int->Option Int->Hp->VK->Prop:=λx lo hi H Q=>∃a xs,x = .ref a/\cJ K H a xs/\
 ¬(HT.du ⇑xs 0 lo=0/\HT.du ⇑xs ⇑xs hi=⇑xs)/\∀p,H p=none->Q (.ref p) (upd H p (.tup (fF xs lo hi)))
def AQ:r8 X (BC X.K):=by
 intro k s B H x v z A e f y Q I u l p t h;let⟨a,d,rfl,n,m,q⟩:=h;cases u;let⟨g,r,i,j⟩:=I.tuple n;have c:g.toArray.size=⇑d:=by rw[size_toArray];exact r.length.symm
 refine⟨"tuple",_,PyProof.Rows.slot_tuple_getitem.lookup,i.typeIs,?_⟩;refine HT.Km i l p t (by rw[c];exact m) ?_ (by rw[c];exact j);rw[c];refine⟨.ref s.heap.objs.size,_,I.laid (t':=s.toks) (o:=.tup (fF d e f)) (λb w q=>vJ _ q) (vb _) ?_,rfl,q _ (I.cL.fresh (vb _))⟩;exact⟨vW (ZM d e f) j,_,(r.drop (HT.du ⇑d 0 e)).take (HT.du ⇑d ⇑d f-HT.du ⇑d 0 e),IsTup.new _ _⟩
def tJ(K:cG):R2:=λx y H Q=>∃a b xs ys,x = .ref a/\y = .ref b/\cJ K H a xs/\cJ K H b ys/\xs≠[]/\⇑xs+⇑ys<=sizeLine/\
 (ys=[]->Q (.ref a) H)/\(ys≠[]->∀p,H p=none->Q (.ref p) (upd H p (.tup (xs++ys))))
def Vals.ir{xs:N2}{us:L9}(r:Vals xs us):us=[]↔xs=[]:=by
 cases r with
 | nil=>simp
 | cons _ _=>simp
def DF:gn X (binaryOp .Add) (tJ X.K):=by
 intro f s E H x y v u Q I t A h;let⟨a,b,B,C,rfl,rfl,g,i,j,k,p,r⟩:=h;cases t;cases A;let⟨l,d,m,Z⟩:=I.tuple g;let⟨e,c,n,Z⟩:=I.tuple i;refine HT.IB m n (λz=>j (d.ir.mp z)) (λz=>⟨.ref a,H,I,rfl,p (c.ir.mp z)⟩) (λz=>?_) (by rw[<-⇑d,<-⇑c];exact k);refine⟨.ref s.heap.objs.size,_,I.laid (t':=s.toks) (o:=.tup (B++C)) (λb D q=>vJ _ q) (vb _) ?_,rfl,r (λw=>z (c.ir.mpr w)) _ (I.cL.fresh (vb _))⟩;exact⟨by simp_all,_,d.append c,IsTup.new _ _⟩
end
noncomputable def lQ(n:Nat)(i:Int):Option Nat:=if 0<=i then(if i<n then some i.toNat else none)else if -(n:Int)<=i then some (i+n).toNat else none
noncomputable def ft{α:Type}(xs:List α)(i:Int):Option α:=(lQ ⇑xs i).bind λj=>xs[j]?
def C4(h:lQ n i=some j):seqIndex? i n=some j/\j<n/\-(n:Int)<=i/\i<n:=by
 unfold lQ at h;by_cases b:0<=i
 .rw[vd b]at h;by_cases a:i<n
  .rw[vd a]at h;have e:i.toNat=j:=vL h;exact⟨by rw[seqIndex_of b a,e],⋯,⋯,a⟩
  .rw[vc a]at h;cases h
 .rw[vc b]at h;by_cases a : -(n:Int)<=i
  .rw[vd a]at h;have e:(i+n).toNat=j:=vL h;exact⟨by rw[seqIndex_neg ⋯ a,e],⋯,a,⋯⟩
  .rw[vc a]at h;cases h
def XW{a:Type}{xs:List a}{i:Int}{v:a}(h:ft xs i=some v):∃j,seqIndex? i ⇑xs=some j/\xs[j]?=some v/\j<⇑xs/\-(⇑xs:Int)<=i/\i<⇑xs:=by
 unfold ft at h;cases e:lQ ⇑xs i with
 | none=>rw[e]at h;cases h
 | some j=>
  rw[e]at h;let⟨b,c,d,f⟩:=C4 e;exact⟨j,b,h,c,d,f⟩
def jS{a:Type}{xs:List a}{j:Nat}{v:a}(h:xs[j]?=some v):ft xs (j:Int)=some v:=by
 have b:j<⇑xs:=(vx.mp h).1;have e:lQ ⇑xs (j:Int)=some j:=by
  unfold lQ
  simp_all
 unfold ft;rw[e];exact h
def GU{a:Type}(xs:List a)(v:a):ft (xs++[v]) (-1)=some v:=by
 have b:⇑(xs++[v])=⇑xs+1:=by simp
 have e:lQ ⇑(xs++[v]) (-1)=some ⇑xs:=by
  unfold lQ;rw[b,vc nofun,vd ⋯];congr 1;lia
 unfold ft
 simp_all
def oF(b:Expr):Prop:=∀o i,subscripted b false o i=operate [o,i] (getItem o i)
def rf(X:Cx)(r:R2):Prop:=
 ∀(value slice:Expr) (pins:Ny) (s:Shared) (σ:St) (H:Hp) (x y:V) (v u:Value) (Q:VK),Inv X pins σ H s->RelV x v->RelV y u->r x y H Q->
  subscripted slice false v u=operate [v,u] (getItem v u)->wpAny (model X.prog X.w) X.A (subscriptTail value slice v u) (EP X pins σ Q) X.xe s
def sJ(X:Cx)(id:String)(r:V->N2->Hp->VK->Prop):Prop:=
 ∀(pins:Ny) (s:Shared) (σ:St) (H:Hp) (x:V) (xs:N2) (v:Value) (us:L9) (Q:VK),Inv X pins σ H s->RelV x v->Vals xs us->r x xs H Q->
  wpAny (model X.prog X.w) X.A (call (.builtin id) (v::us)) (EP X pins σ Q) X.xe s
section
variable{X:Cx}{a b:Expr}{ta tb:TE}{pos:Pos}
def jo(i:rf X r)(f:PE X a ta)(g:PE X b tb)(j:oF b:=by exact λZ Z=>rfl):PE X (.Subscript a b pos) (uY r ta tb):=by
 intro c s n H Q I h;exact Subscript_ (sR f g I h λv u m x y d e k l q=>i a b c m n d x y v u Q e k l q (j _ _))
def nU(K:cG):R2:=λx y H Q=>∃p xs i v,x = .ref p/\y = .int i/\cm K H p xs/\ft xs i=some v/\Q v H
def oV(K:cG):R2:=λx y H Q=>∃p xs i v,x = .ref p/\y = .int i/\cJ K H p xs/\ft xs i=some v/\Q v H
def Bw:R2:=λx y H Q=>∃z i c,x = .str z/\y = .int i/\⇑z<=sizeLine/\ft z.cps.toList i=some c/\Q (.str ⟨#[c]⟩) H
def jz:rf X (nU X.K):=by
 intro l k a s A H x y v u Q I G J h o;let⟨p,P,i,z,rfl,rfl,F,E,q⟩:=h;cases G;let⟨t,rfl⟩:=J;let⟨e,r,f,O⟩:=I.list F;let⟨j,c,B,L,C,D⟩:=XW E;let⟨w,m,g⟩:=r.get B;have M:=⇑r;have N:=gV;have b:EP X a A Q w s:=⟨z,H,I,g,q⟩
 by_cases n:0<=i
 .have d:i.toNat=j:=by
   rw[seqIndex_of n D]at c;exact vL c
  exact item_listR f.isList n ⋯ (by rw[d];simpa using m) b o
 .have d:(i+(e.toArray.size:Int)).toNat=j:=by
   rw[seqIndex_neg ⋯ C]at c
   simp_all
  exact subscriptTail_builtinR (x:=w) f.isList.typeIs slot_list_getitem.lookup
   (wpAny_getItem_list_neg (Q:=λr K=>r=w/\EP X a A Q r K) f.isList ⋯ (by simp_all) ⋯ (by rw[d];simpa using m) ⟨rfl,b⟩) o
def jv:rf X (oV X.K):=by
 intro e d a s g H x y v u Q I B C h o;let⟨p,N,i,z,rfl,rfl,n,m,q⟩:=h;cases B;let⟨t,rfl⟩:=C;let⟨A,r,f,M⟩:=I.tuple n;let⟨j,E,l,F,G,J⟩:=XW m;let⟨w,k,c⟩:=r.get l;have K:=⇑r;have L:=gV;have b:EP X a g Q w s:=⟨z,H,I,c,q⟩
 exact subscriptTail_builtinR (x:=w) f.typeIs slot_tuple_getitem.lookup
  (getItem_tuple (j:=j) (Q:=λr D=>r=w/\EP X a g Q r D) f ⋯ ⋯ (by simp_all) #v[k] ⟨rfl,b⟩) o
def uK:rf X Bw:=by
 intro b a e s E H x y v u Q I r w h p;let⟨z,i,c,rfl,rfl,C,n,q⟩:=h;let⟨t,rfl⟩:=r;let⟨D,rfl⟩:=w;let⟨j,d,k,A,l,m⟩:=XW n;have o:⇑z.cps.toList=⇑z:=by simp[Str.length]
 rw[o]at d l m;have B:=gV;exact tail_any (typeIs_str s z t) slot_str_getitem.lookup (getItem_str (c:=c) (by
  have f:decide (i < -(2^63:Int))=false:=vH ⋯;have g:decide (i>=2^63)=false:=vH ⋯;rw[f,g,Bool.or_false]) (by rw[d];simpa using k) ⟨.str ⟨#[c]⟩,H,I.tok _,⟨_,rfl⟩,q⟩) p
def Gd(a:L9)(n j:Nat)(u:Value):Obj.mapSeq (·.setIfInBounds j u) {cls:=.type "list",data:=.seq a.toArray n}={cls:=.type "list",data:=.seq (a.set j u).toArray n}:=by
 simp[Obj.mapSeq]
def Inv.lst{b:St}{H:Hp}(I:Inv X pins b H s)(h:H p=some (.lst xs)) :
  ∃(a:L9) (n:Nat),Vals xs a/\s.heap.get? p=some {cls:=.type "list",data:=.seq a.toArray n}/\⇑xs<=sizeLine:=by
 let⟨z,a,n,r,e⟩:=I.cL p _ h;exact⟨a,n,r,e,z⟩
def Inv.rD{a:Ny}{i:St}{H:Hp}{s:Shared}{p:Addr}{xs ys:N2}{c its':L9}{n d:Nat}{f:Obj->Obj}(I:Inv X a i H s)(h:H p=some (.lst xs))
  (k:s.heap.get? p=some {cls:=.type "list",data:=.seq c.toArray n}) (g:f {cls:=.type "list",data:=.seq c.toArray n}={cls:=.type "list",data:=.seq its'.toArray d}) (r:Vals ys its') (hz:⇑ys<=sizeLine) (t:Nat) :
  Inv X a i (upd H p (.lst ys)) {s with heap:=s.heap.update p f,toks:=t}:=by
 have e:(s.heap.update p f).get? p=some {cls:=.type "list",data:=.seq its'.toArray d}:=by
  rw[Heap.get?_update_self f k (by rw[g]<;>rfl),g]
 refine I.write (x:=p) (e:=p) (by rw[h];trivial) (.inl rfl) (λb u j q=>(Heap.get?_update_other _ _ (Ne.symm j)).trans q) ⟨_,e⟩ ?_;exact⟨hz,its',d,r,e⟩
noncomputable def tL:V->V->V->Hp->(Hp->Prop)->Prop:=λo i v H Q=>∃p xs k j,o = .ref p/\i = .int k/\H p=some (.lst xs)/\lQ ⇑xs k=some j/\Q (upd H p (.lst (xs.set j v)))
def set_list:rk X tL:=by
 intro b s C H o i v ov J u Q I z y A h;let⟨p,B,k,j,rfl,rfl,l,x,q⟩:=h;cases z;let⟨t,rfl⟩:=y;let⟨a,n,r,e,G⟩:=I.lst l;let⟨c,D,m,w⟩:=C4 x;have E:=⇑r;have F:=gV;have f:Inv X b C (upd H p (.lst (B.set j v))) {s with heap:=s.heap.update p (Obj.mapSeq (·.setIfInBounds j u))}:=
  I.rD l e (Gd a n j u) (r.set A j) (by simp_all) s.toks
 by_cases g:0<=k
 .have d:k.toNat=j:=by
   rw[seqIndex_of g w]at c;exact vL c
  exact PySem.W.ki_setAt e g ⋯ (by simp_all) (by rw[d];exact⟨_,f,q⟩)
 .have d:(k+(a.toArray.size:Int)).toNat=j:=by
   rw[seqIndex_neg ⋯ m]at c
   simp_all
  exact PySem.W.ki_setBack e ⋯ (by simp_all) ⋯ (by rw[d];exact⟨_,f,q⟩)
def Fu(lo hi:Nu)(n:Nat):(sliceBounds lo hi none n).1=((HT.du n 0 lo:Nat):Int)/\(sliceBounds lo hi none n).2.1=((HT.du n n hi:Nat):Int)/\(sliceBounds lo hi none n).2.2=1:=by
 refine⟨?_,?_,rfl⟩
 .cases lo with
  | none=>simp[sliceBounds,HT.du]
  | some i=>
   simp only[sliceBounds,HT.du,Option.getD_none,show(1:Int)>0 by decide,if_true];by_cases h:i<0
   .simp only[h,if_true]<;>lia
   .simp only[h,if_false]<;>lia
 .cases hi with
  | none=>simp[sliceBounds,HT.du]
  | some i=>
   simp only[sliceBounds,HT.du,Option.getD_none,show(1:Int)>0 by decide,if_true];by_cases h:i<0
   .simp only[h,if_true]<;>lia
   .simp only[h,if_false]<;>lia
def xW(a:L9)(lo hi:Nu):slicePick a.toArray lo hi none=((a.drop (HT.du ⇑a 0 lo)).take (HT.du ⇑a ⇑a hi-HT.du ⇑a 0 lo)).toArray:=by
 let⟨b,c,d⟩:=Fu lo hi a.toArray.size;unfold slicePick;rw[b,c,d];simp only[sliceRange_one,pick_run,size_toArray]<;>rfl
noncomputable def BA(K:cG):V->Option Int->Option Int->Hp->VK->Prop:=λx lo hi H Q=>∃a xs,x = .ref a/\cm K H a xs/\∀p,H p=none->Q (.ref p) (upd H p (.lst (fF xs lo hi)))
def De:r8 X (BA X.K):=by
 intro i s A H x v y z e f w Q I t j n p h;let⟨a,c,rfl,k,q⟩:=h;cases t;let⟨m,r,g,l⟩:=I.list k;have d:=⇑r;refine⟨"list",_,slot_list_getitem.lookup,g.isList.typeIs,?_⟩;refine wpAny_getItem_list_slice g.isList j n p .none (by simp) ?_ (by simp_all);rw[xW,<-d];refine⟨.ref s.heap.objs.size,_,I.laid (t':=s.toks) (o:=.lst (fF c e f)) (λb u q=>vJ _ q) (vb _) ?_,rfl,q _ (I.cL.fresh (vb _))⟩;exact⟨vW (ZM c e f) l,_,0,(r.drop (HT.du ⇑c 0 e)).take (HT.du ⇑c ⇑c f-HT.du ⇑c 0 e),Heap.get?_push_size _ rfl⟩
noncomputable def ff:V->Bool
 | .de=>true
 | .bl _=>true
 | .int _=>true
 | .str _=>true
 | _=>false
noncomputable def mF:V->V->Bool
 | .de,.de=>true
 | .bl a,.bl b=>a==b
 | .bl a,.int b=>(if a then 1 else 0)==b
 | .int a,.bl b=>a==(if b then 1 else 0)
 | .int a,.int b=>a==b
 | .str a,.str b=>a==b
 | _,_=>false
def MV(f:RelV y u)(c:RelV x v)(g:ff y=true)(e:ff x=true):SeqAt.EqAt A s u v (mF y x):=by
 cases y with
 | de=>
  cases f;cases x with
  | de=>cases c;exact SeqAt.EqAt.same _
  | bl b=>cases c;exact SeqAt.EqAt.none_bool b
  | int b=>let⟨t,rfl⟩:=c;exact SeqAt.EqAt.none_int b t
  | str b=>let⟨t,rfl⟩:=c;exact SeqAt.EqAt.none_str b t
  | _=>exact ub (show false=true from e) vF
 | bl a=>
  cases f;cases x with
  | de=>cases c;exact SeqAt.EqAt.bool_none a
  | bl b=>cases c;exact SeqAt.EqAt.bool_bool a b
  | int b=>let⟨t,rfl⟩:=c;exact SeqAt.EqAt.bool_int a b t
  | str b=>let⟨t,rfl⟩:=c;exact SeqAt.EqAt.bool_str a b t
  | _=>exact ub (show false=true from e) vF
 | int a=>
  let⟨d,rfl⟩:=f;cases x with
  | de=>cases c;exact SeqAt.EqAt.int_none a d
  | bl b=>cases c;exact SeqAt.EqAt.int_bool a d b
  | int b=>let⟨t,rfl⟩:=c;exact SeqAt.EqAt.int_int a d b t
  | str b=>let⟨t,rfl⟩:=c;exact SeqAt.EqAt.int_str a d b t
  | _=>exact ub (show false=true from e) vF
 | str a=>
  let⟨d,rfl⟩:=f;cases x with
  | de=>cases c;exact SeqAt.EqAt.str_none a d
  | bl b=>cases c;exact SeqAt.EqAt.str_bool a d b
  | int b=>let⟨t,rfl⟩:=c;exact SeqAt.EqAt.str_int a d b t
  | str b=>let⟨t,rfl⟩:=c;exact SeqAt.EqAt.str_str a d b t
  | _=>exact ub (show false=true from e) vF
 | _=>exact ub (show false=true from g) vF
noncomputable def lY(x:V)(u:Value):Bool:=match u with
 | .none=>mF .de x
 | .bool b=>mF (.bl b) x
 | .int i _=>mF (.int i) x
 | .str z _=>mF (.str z) x
 | _=>false
def uI(r:RelV y u)(f:ff y=true):lY x u=mF y x:=by
 cases y with
 | de=>cases r;rfl
 | bl b=>cases r;rfl
 | int i=>let⟨t,rfl⟩:=r;rfl
 | str z=>let⟨t,rfl⟩:=r;rfl
 | _=>exact ub (show false=true from f) vF
theorem Kb:∀{xs:N2} {us:L9},Vals xs us->xs.all ff=true->us.any (lY x)=xs.any λy=>mF y x
 | _,_,.nil,_=>rfl
 | y::xs,u::us,.cons r t,f=>by
  rw[all_cons,Bool.and_eq_true]at f;rw[any_cons,any_cons,uI r f.1,Kb t f.2]
theorem yf(c:RelV x v)(b:ff x=true):∀{xs:N2} {us:L9},Vals xs us->xs.all ff=true->∀u∈us,SeqAt.EqAt A s u v (lY x u)
 | _,_,.nil,_=>λu a=>by cases a
 | y::xs,u::us,.cons r t,f=>λd a=>by
  rw[all_cons,Bool.and_eq_true]at f;rcases mem_cons.mp a with rfl | a
  .rw[uI r f.1];exact MV r c f.1 b
  .exact yf c b t f.2 d a
noncomputable def nO(x:V)(xs:N2):Bool:=xs.any λy=>mF y x
def Bv(K:cG)(neg:Bool):R2:=λx y H Q=>∃p xs,y = .ref p/\(cm K H p xs\/cJ K H p xs)/\ff x=true/\xs.all ff=true/\Q (.bl (if neg then !nO x xs else nO x xs)) H
def wA:gn X (compareOp .In) (Bv X.K false):=by
 intro g s m H x y v u Q I i k h;let⟨p,l,rfl,b,f,c,q⟩:=h;cases k;rcases b with b | b
 .let⟨a,r,e,j⟩:=I.list b;refine SeqAt.in_listAt (lY x) e.isList (λw d=>yf i f r c w #v[d]) ⟨.bl _,H,I,rfl,?_⟩;rw[show a.toArray.any (lY x)=a.any (lY x) by simp,Kb r c];exact q
 .let⟨a,r,e,j⟩:=I.tuple b;refine SeqAt.in_tupleAt (lY x) e (λw d=>yf i f r c w #v[d]) ⟨.bl _,H,I,rfl,?_⟩;rw[show a.toArray.any (lY x)=a.any (lY x) by simp,Kb r c];exact q
def Fl:gn X (compareOp .NotIn) (Bv X.K true):=by
 intro g s m H x y v u Q I i k h;let⟨p,l,rfl,b,f,c,q⟩:=h;cases k;rcases b with b | b
 .let⟨a,r,e,j⟩:=I.list b;refine SeqAt.notIn_listAt (lY x) e.isList (λw d=>yf i f r c w #v[d]) ⟨.bl _,H,I,rfl,?_⟩;rw[show a.toArray.any (lY x)=a.any (lY x) by simp,Kb r c];exact q
 .let⟨a,r,e,j⟩:=I.tuple b;refine SeqAt.notIn_tupleAt (lY x) e (λw d=>yf i f r c w #v[d]) ⟨.bl _,H,I,rfl,?_⟩;rw[show a.toArray.any (lY x)=a.any (lY x) by simp,Kb r c];exact q
def qt:dE X (.type "list") (λxs H Q=>∃p ys,xs=[.ref p]/\(cm X.K H p ys\/cJ X.K H p ys)/\∀l,H l=none->Q (.ref l) (upd H l (.lst ys))):=by
 intro t s B H xs C Q I r h;let⟨p,ys,rfl,j,q⟩:=h;let⟨u,rfl,A⟩:=vals1 r;cases A;have g:∀(a:L9),Vals ys a->⇑ys<=sizeLine->∀(c:Heap) (d:Nat),(∀b z,s.heap.get? b=some z->c.get? b=some z)->
   c.get? s.heap.objs.size=some {cls:=.type "list",dict:=none,data:=.seq a.toArray d,slots:=#[]}->EP X t B Q (.ref s.heap.objs.size) {s with heap:=c}:=λa f k c d m e=>
  ⟨.ref s.heap.objs.size,_,I.laid (t':=s.toks) m (vb _) (show cD X.prog X.w _ c _ (.lst ys)from⟨k,a,d,f,e⟩),rfl,q _ (I.cL.fresh (vb _))⟩
 rcases j with j | j
 .let⟨a,f,y,k⟩:=I.list j;have i:=⇑f;let⟨o,x,v,n,w⟩:=y.isList;exact call_list_seq p (.inl rfl) x v w (λc d m e=>g a f k c d m e) (by simp_all)
 .let⟨a,f,y,k⟩:=I.tuple j;have i:=⇑f;let⟨o,x,v,n,w⟩:=y;exact call_list_seq p (.inr rfl) x v w (λc d m e=>g a f k c d m e) (by simp_all)
def JU:dE X (.type "tuple") (λxs H Q=>∃p ys,xs=[.ref p]/\((cm X.K H p ys/\∀l,H l=none->Q (.ref l) (upd H l (.tup ys)))\/(cJ X.K H p ys/\Q (.ref p) H))):=by
 intro a s n H xs x Q I r h;let⟨p,ys,rfl,h⟩:=h;let⟨u,rfl,w⟩:=vals1 r;cases w;rcases h with⟨f,q⟩ | ⟨f,q⟩
 .let⟨c,i,g,m⟩:=I.list f;have k:=⇑i;refine call_tuple_list g.isList (λd v=>?_) (by simp_all);have j:Inv X a n H {s with heap:=d}:=I.kept (t':=s.toks) v;have t:Inv X a n (upd H d.objs.size (.tup ys)) {s with heap:=d.push {cls:=.type "tuple",data:=.seq c.toArray}}:=
   j.laid (t':=s.toks) (λb o e=>vJ _ e) (vb _) (show cD X.prog X.w _ _ _ (.tup ys)from⟨m,c,i,IsTup.new _ _⟩)
  exact⟨.ref d.objs.size,_,t,rfl,q _ (j.cL.fresh (vb _))⟩
 .let⟨c,i,g,m⟩:=I.tuple f;exact call_tuple_same g ⟨.ref p,H,I,rfl,q⟩
def uq(K:cG)(T:String)(x:V)(H:Hp):Prop:=match x with
 | .str _=>T = "str"
 | .int _=>T = "int"
 | .ref p=>(T = "list"/\∃xs,cm K H p xs)\/(T = "tuple"/\∃o,K.lookup p=some o/\o.cls = .type "tuple"/\o.dict=none)\/
   (T = "dict"/\((∃kvs,H p=some (.dK kvs))\/∃kvs,H p=some (.dT kvs)))\/(T = "set"/\∃S n,H p=some (.set S n))
 | _=>False
def EA{w:St}{H:Hp}(I:Inv X pins w H s)(r:RelV x v)(f:uq X.K T x H) :
  s.TypeIs v T/\∀a,v = .ref a->∃k,s.heap.get? a=some k/\k.dict=none:=by
 cases x with
 | str z=>
  let⟨t,rfl⟩:=r;cases(show T = "str" from f);exact⟨typeIs_str s z t,λZ e=>nomatch e⟩
 | int i=>
  let⟨t,rfl⟩:=r;cases(show T = "int" from f);exact⟨typeIs_int s i t,λZ e=>nomatch e⟩
 | ref p=>
  cases r;rcases f with⟨rfl,y,q⟩ | ⟨rfl,o,b,m,h⟩ | ⟨rfl,b⟩ | ⟨rfl,S,n,b⟩
  .let⟨u,_,l,_⟩:=I.list q;refine⟨l.isList.typeIs,λa e=>?_⟩;cases e;let⟨o,n,e,c,h,Z⟩:=l;exact⟨o,e,h⟩
  .refine⟨⟨o,I.fH p o b,m⟩,λa e=>?_⟩;cases e;exact⟨o,I.fH _ o b,h⟩
  .have z:∃o,s.heap.get? p=some o/\o.ExactDict:=by
    rcases b with⟨j,b⟩ | ⟨j,b⟩
    .let⟨_,_,_,_,o,_,_,e,d,_⟩:=I.cL p _ b;exact⟨o,e,d⟩
    .let⟨_,_,_,_,o,_,_,e,d,_⟩:=I.cL p _ b;exact⟨o,e,d⟩
   let⟨o,e,d⟩:=z;refine⟨⟨o,e,d.1⟩,λa g=>?_⟩;cases g;exact⟨o,e,d.2.1⟩
  .let⟨o,_,_,_,e,d,_⟩:=I.cL p _ b;refine⟨⟨o,e,d.1⟩,λa g=>?_⟩;cases g;exact⟨o,e,d.2.1⟩
 | _=>exact False.elim f
def tT(K:cG)(T:String)(r:V->N2->Hp->VK->Prop)(to:TE):TE:=λσ H Q=>to σ H λx H1=>uq K T x H1/\r x [] H1 Q
def ET(K:cG)(T:String)(r:V->N2->Hp->VK->Prop)(to:TE)(t:TA):TE:=λσ H Q=>to σ H λx H1=>uq K T x H1/\t σ H1 λxs H2=>r x xs H2 Q
variable{o e:Expr}{es:Nt}{to:TE}{t:TA}{name:Str}{apos cpos:Pos}{T id:String}{r:V->N2->Hp->VK->Prop}
def uQ(p:PlainAttrs T)(d:Slot T name id)(e:typeOf (.builtin id)=pure (.type "method_descriptor"))(m:sJ X id r)(n:PE X o to)
  (b:attributeBase o name X.env (eval o X.env)=eval o X.env:=by rfl) (c:(apos.endLine==cpos.line)=true:=by rfl):PE X (.Call (.Attribute o name apos) [] [] cpos) (tT X.K T r to):=by
 intro a s i H Q I h;refine wpAny_Call_method0_late b c (cN (n a s i H _ I h) λv t z_=>?_);obtain⟨x,j,f,g,u,q⟩:=z_;let⟨k,l⟩:=EA f g u;exact⟨T,id,p,d,e,k,l,Calls.callWith_builtin rfl (PySem.evalArgs_none (m a t i j x [] v [] Q f g .nil q))⟩
def qa(C:PlainAttrs T)(g:Slot T name id)(i:typeOf (.builtin id)=pure (.type "method_descriptor"))(z:sJ X id r)(A:PE X o to)(y:PA X (e::es) t)
  (c:attributeBase o name X.env (eval o X.env)=eval o X.env:=by rfl)
  (f:((backTo cpos (starEach (e::es) X.env)).all (λx=>!x.1)&&(backToKw cpos (keywordEach [] X.env)).all (λx=>x.1.isSome)
   && decide (⇑(e::es)+⇑([]:List Keyword)+(if([]:List Keyword).isEmpty then 0 else 1)<30))=true:=by rfl)
  (d:(apos.endLine==cpos.line)=true:=by rfl) (B:starEach (e::es) X.env=(false,eval e X.env)::starEach es X.env:=by rfl) (b:(backTo cpos (starEach es X.env)).any (·.1)=false:=by rfl) :
  PE X (.Call (.Attribute o name apos) (e::es) [] cpos) (ET X.K T r to t):=by
 intro a s j H Q I h;refine wpAny_Call_method_late c f d rfl (cN (A a s j H _ I h) λv G z_=>?_);obtain⟨x,n,k,m,K,D⟩:=z_;let⟨u,w⟩:=EA k m K;refine⟨T,id,C,g,i,u,w,?_⟩;have l:=y cpos a G j n _ k D;rw[B]at l|-;refine Calls.callWith_builtin (by show(false||(backTo cpos (starEach es X.env)).any (·.1))=false;rw[b]<;>rfl) (Calls.evalArgs_plain ?_);refine cN l λL J z_=>?_;let⟨M,p,q,F,E⟩:=z_;exact z a J j p x M v L Q q m F E
end
def uu(X:Cx)(id:String)(r:V->N2->Hp->VK->Prop):Prop:=
 ∀(pins:Ny) (s:Shared) (σ:St) (H:Hp) (x:V) (xs:N2) (v:Value) (us:L9) (Q:VK),Inv X pins σ H s->RelV x v->Vals xs us->r x xs H Q->
  wpAny (model X.prog X.w) X.A (call (.builtin id) (v::us)) (EP X pins σ Q) X.xe s
def Vals.one:∀{x:V} {us:L9},Vals [x] us->∃u,us=[u]/\RelV x u:=by
 intro x us h;cases h with
 | cons r t=>
  cases t;exact⟨_,rfl,r⟩
def Vals.zero:∀{us:L9},Vals [] us->us=[]
 | _,.nil=>rfl
def Vals.dropLast{xs:N2}{us:L9}(h:Vals xs us):Vals xs.dropLast us.dropLast:=by
 induction h with
 | nil=>exact .nil
 | cons r t ih=>
  cases t with
  | nil=>exact .nil
  | cons q t'=>exact .cons r ih
def N6{a:Type}(l:List a):l.eraseIdx (⇑l-1)=l.dropLast:=by
 simp_all
section
variable{X:Cx}{pins:Ny}{σ:St}{H:Hp}{s:Shared}{l b:Addr}{xs ys zs:N2}
def Inv.oN{a its':L9}{n:Nat}{f:Array Value->Array Value}{t':Nat}(I:Inv X pins σ H s)(b:H l=some (.lst xs))
  (e:s.heap.get? l=some {cls:=.type "list",data:=.seq a.toArray n}) (d:f a.toArray=its'.toArray) (h:Vals ys its') (hz:⇑ys<=sizeLine) :
  Inv X pins σ (upd H l (.lst ys)) {s with heap:=s.heap.update l (Obj.mapSeq f),toks:=t'}:=by
 have q:=PySem.IsL.update e f;rw[d]at q;refine I.write (x:=l) (e:=l) (by rw[b];exact trivial) (.inl rfl) (λi u c g=>(Heap.get?_update_other s.heap (Obj.mapSeq f) (Ne.symm c)).trans g) ⟨_,q⟩ ?_;exact⟨hz,its',_,h,q⟩
def Inv.Bm(I:Inv X pins σ H s)(a:Vals ys its)(hz:⇑ys<=sizeLine) :
  Inv X pins σ (upd H s.heap.objs.size (.lst ys)) {s with heap:=s.heap.push {cls:=.type "list",data:=.seq its.toArray},toks:=t'}:=
 I.laid (λj j q=>vJ _ q) (vb _) ⟨hz,its,0,a,Heap.get?_push_size _ rfl⟩
def Inv.fresh(I:Inv X pins σ H s):H s.heap.objs.size=none:=I.cL.fresh (vb _)
def Inv.lR(I:Inv X pins σ H s)(b:H l=some (.lst xs)):⇑xs<=sizeLine/\∃(a:L9) (n:Nat),Vals xs a/\⇑xs=⇑a/\s.heap.get? l=some {cls:=.type "list",data:=.seq a.toArray n}:=by
 let⟨z,a,n,r,e⟩:=I.cL l _ b;exact⟨z,a,n,r,⇑r,e⟩
def nQ(h:n<=sizeLine):Builtin.List.listTooLong n=false:=by
 unfold Builtin.List.listTooLong;exact vH ⋯
end
section
variable{X:Cx}
noncomputable def oS:V->N2->Hp->VK->Prop:=λx vs H Q=>∃l xs y,x = .ref l/\vs=[y]/\H l=some (.lst xs)/\⇑xs<sizeLine/\Q .de (upd H l (.lst (xs++[y])))
def jT:uu X "list.append" oS:=by
 intro c s p H x m v k Q I g f h;let⟨l,o,y,rfl,rfl,b,j,q⟩:=h;cases g;let⟨u,rfl,d⟩:=f.one;let⟨z,a,n,r,i,e⟩:=I.lR b;refine call_meets F.slot_list_append ⟨_,e,rfl⟩ F.entry_list_append (F.args_list_append_2 _ _) (PySem.list_append l a.toArray n u (by rw[size_toArray];lia)) ⟨e,?_⟩;refine⟨.de,_,I.oN (its':=a++[u]) b e (by simp) (r.append (.cons d .nil)) ?_,rfl,q⟩;rw[vn,vS];lia
noncomputable def oT:V->N2->Hp->VK->Prop:=λx vs H Q=>∃l b xs zs,x = .ref l/\vs=[.ref b]/\H l=some (.lst xs)/\H b=some (.lst zs)/\⇑xs+⇑zs<=sizeLine/\Q .de (upd H l (.lst (xs++zs)))
def G5:uu X "list.extend" oT:=by
 intro i s K H x D v C Q I y w h;let⟨l,b,E,J,rfl,rfl,g,k,B,q⟩:=h;cases y;let⟨u,rfl,t⟩:=w.one;cases t;let⟨z,c,n,r,A,e⟩:=I.lR g;let⟨G,a,o,p,m,j⟩:=I.lR k;have f:c.toArray.size+a.toArray.size<=sizeLine:=by simp_all
 have d:¬(!c.toArray.isEmpty&&Builtin.List.listTooLong (c.toArray.size+a.toArray.size))=true:=by
  rw[nQ f,Bool.and_false];exact vF
 refine call_meets F.slot_list_extend ⟨_,e,rfl⟩ F.entry_list_extend (F.args_list_extend_2 _ _)
  (AutoSeq1.list_extend_list_list_0 l c.toArray n b a.toArray o d (by rw[size_toArray];lia) ⋯) ⟨e,j,?_⟩
 refine⟨.de,_,I.oN (its':=c++a) g e (by simp) (r.append p) ?_,rfl,q⟩;rw[vn];lia
noncomputable def By:V->N2->Hp->VK->Prop:=λx vs H Q=>∃l xs y,x = .ref l/\vs=[]/\H l=some (.lst xs)/\xs[⇑xs-1]?=some y/\Q y (upd H l (.lst xs.dropLast))
def Nf:uu X "list.pop" By:=by
 intro f s A H x t v p Q I k j h;let⟨l,w,y,rfl,rfl,d,g,q⟩:=h;cases k;have b:=j.zero;subst b;let⟨z,a,n,r,m,e⟩:=I.lR d;let⟨u,o,i⟩:=r.get g;have c:a.toArray[a.toArray.size-1]?=some u:=by
  simp_all
 refine call_meets F.slot_list_pop ⟨_,e,rfl⟩ F.entry_list_pop (F.args_list_pop_1 _) (MeetsSeq.list_pop_last l a.toArray n u c (by rw[size_toArray];lia)) ⟨e,?_⟩;refine⟨y,_,I.oN (its':=a.dropLast) d e ?_ r.dropLast ?_,i,q⟩
 .simp_all
 .rw[List.length_dropLast];lia
noncomputable def rJ:V->N2->Hp->VK->Prop:=λx vs H Q=>∃l xs,x = .ref l/\vs=[]/\H l=some (.lst xs)/\Q .de (upd H l (.lst []))
def Cy:uu X "list.clear" rJ:=by
 intro d s o H x k v j Q I g f h;let⟨l,m,rfl,rfl,c,q⟩:=h;cases g;have a:=f.zero;subst a;let⟨z,b,n,r,i,e⟩:=I.lR c;refine call_meets F.slot_list_clear ⟨_,e,rfl⟩ F.entry_list_clear (F.args_list_clear_1 _) (AutoSeq1.list_clear_list_0 l b.toArray n (by rw[size_toArray];lia)) ⟨e,?_⟩;exact⟨.de,_,I.oN (its':=[]) (ys:=[]) c e rfl .nil (va _),rfl,q⟩
def Bt:R2:=λx y H Q=>∃l b xs zs,x = .ref l/\y = .ref b/\H l=some (.lst xs)/\H b=some (.lst zs)/\⇑xs+⇑zs<=sizeLine/\∀p,H p=none->Q (.ref p) (upd H p (.lst (xs++zs)))
def wz:gn X (binaryOp .Add) Bt:=by
 intro d s E H x y v u Q I o p h;let⟨l,b,B,D,rfl,rfl,j,i,w,q⟩:=h;cases o;cases p;let⟨z,c,n,r,t,e⟩:=I.lR j;let⟨C,a,A,m,k,f⟩:=I.lR i;refine PySem.P.add_list e f ?_ (by simp_all);have g:c.toArray++a.toArray=(c++a).toArray:=by simp
 rw[g];exact⟨.ref _,_,I.Bm (t':=s.toks) (r.append m) (by rw[vn];lia),rfl,q _ I.fresh⟩
end
end L2
namespace Att
open PySem PySem.W PySem.Calls PyProof.Rows
def wW:∀(c:L5) (vs:L9),WellAll P h vs (c.map WData.int)->IntsAre vs c:=by
 intro c
 induction c with
 | nil=>
  intro vs w;rw[map_nil]at w;cases w;exact .nil
 | cons n c ih=>
  intro vs w;rw[uw]at w;cases w with
  | cons a b=>
   cases a;exact .cons _ _ (ih _ b)
def Ho{l:OpenLaw}{n:Nat}(q:l.most=some n){P:Params}{h:Heap}{args:List WData}{e:L9}
  (b:l.row.toRowW.claim.pre args=true) (j:WellAll P h e args) :
  ∃a vs c,e=[Value.ref a]/\args=[WData.list (c.map WData.int)]/\h.get? a=some {cls:=.type "list",data:=.seq vs.toArray}/\IntsAre vs c/\⇑c<=n:=by
 have i:WShape.hasAll [] args [.list .int]=true:=(pre_splitW b).1;have k:l.pre.holds [] {args:=args}=true:=(pre_splitW b).2;let⟨d,r,rfl,m,o⟩:=hasAllW_cons i;obtain rfl:=hasAllW_nil o;let⟨t,rfl,p⟩:=hasW_list m;let⟨c,rfl⟩:=items_int p;have f:⇑c<=n:=by
  unfold OpenLaw.pre at k;have g:(WTm.not (.lt (.lit (.int (n:Int))) (.len (.arg 0)))).holds [] {args:=[.list (c.map .int)]}=true:=by
   have g:=(holds_andW k).1;rw[q]at g;exact g
  have s:=condW_of g (w_not (w_lt w_lit (w_len_list (w_arg rfl))))
  simp_all
 cases j with
 | cons w1 w2=>
  cases w2;cases w1 with
  | list ho hall=>exact⟨_,_,c,rfl,rfl,ho,wW c _ hall,f⟩
def Hh(l:OpenLaw)(args:List WData):l.row.toRowW.claim.post args (.bool true) args=true:=
 postW_of (r:=l.row.toRowW) (X:=(true==true))
  (show WShape.has [] (.bool true) .bool=true by first | rfl | decide | simp[WShape.has,WShape.arms,WShape.armsAll])
  (show(WTm.eq .res (.lit (.bool true))).value [] {args:=args,res:=some (.bool true),after:=args}=some (.bool (true==true))from w_eq_bool (w_res rfl) w_lit) rfl
end Att
namespace L2
open PySem PySem.Spec PyProof.Rows
theorem XM:∀{vs:L9} {a:L5},IntsAre vs a->Vals (a.map V.int) vs
 | _,_,.nil=>.nil
 | _,_,.cons n t h=>.cons ⟨t,rfl⟩ (XM h)
def rj(H:Hp):Prop:=∀b,H b=none\/∃o xs,H b=some (.lZ o (.lst xs))
def HQ{P:Program}{w:World}{K:cG}{G S:Nw}{CX:m6}{k:Nat}{fa a:Addr}{X:FuncData}{x:Str}{sp:Sp}{c:Shared}{vs:L9}{I:L5}
  (W:K.In c.heap) (B:c.heap.Ns mainGlobals G) (g:c.heap.Ns builtinsNs S) (O:∀x:Str,x≠"__name__"->S x=bootBuiltins x) (y:c.heap.NoLimit) (hg:c.gens = #[])
  (N:c.heap.get? a=some {cls:=.type "list",data:=.seq vs.toArray}) (hi:IntsAre vs I) (hl:⇑I<=sizeLine) (hr:dB k callerA)
  (F:∀base:Heap,K.In base->base.Ns mainGlobals G->dO P w K G base CX k fa X [x] sp) (l:∀(s:Shared) (u:Value),BindsTo s X ⟨[u],[]⟩ [(x,u)])
  (R:∀H:Hp,rj H->cm K H a (I.map V.int)->sp [.ref a] H (λv _=>v = .bl true) λ_ _ _=>False)
  (M:∀H e s',CX [] H c (λ_ _ _=>False) e s'->False) :
  codeAny (model P w) callerA (.call (.ref fa) ⟨[.ref a],[]⟩) (λr s'=>r = .ok (.ret (.bool true))/\OldK c.heap s'.heap/\s'.os=c.os/\AllBare s'.gens) c:=by
 have rv:=XM hi;have Z:=⇑hi;have j:∀H:Hp,rj H->cm K H a (I.map V.int)->fy P w H c.heap->(∀b,H b≠none->b=a)->(H a≠none->K.lookup a=none)->
   codeAny (model P w) callerA (.call (.ref fa) ⟨[.ref a],[]⟩) (λr s'=>r = .ok (.ret (.bool true))/\OldK c.heap s'.heap/\s'.os=c.os/\AllBare s'.gens) c:=by
  intro H Y hS C hA hK;have f:∀{b:Addr} {o:Obj},c.heap.get? b=some o->H b=none->(lB c.heap H).get? b=some o:=λe n=>HL e n
  have T:∀{b:Addr} {o:Obj} {L:Array DictEntry} {J:Nat},c.heap.get? b=some o->o.data = .dict L J->H b=none:=λ{b o L J} e d=>by
   grind
  have i:∀{b:Addr} {m:Nw},c.heap.Ns b m->(lB c.heap H).Ns b m:=λ{b m} ⟨o,L,J,e,d,r⟩=>⟨o,L,J,f e (T e d),d,r⟩
  have t:K.In (lB c.heap H):=λb o e=>f (W b o e) (by
   grind)
  have hM:Mod K G (lB c.heap H):=⟨t,i B,⟨S,i g,O⟩,let ⟨mc,h1,h2⟩:=y;⟨mc,i h1,h2⟩⟩
  have e0:mh P w K G (lB c.heap H) callerA [] c H:=⟨rfl,hM,λb o e=>LP e,Nat.le_of_eq (GG _ _),trivial,λb g=>ub (show b∈([]:L7)from g) (by simp),C,.of_eq hg⟩
  refine codeAny_mono ((F _ t (i B)).run callerA [] c H ⟨[.ref a],[]⟩ [.ref a] [.ref a] _ _ hr e0 (l c (.ref a)) (.cons rfl .nil) (R H Y hS)) λr s' h=>?_
  cases r with
  | error e=>exact(M H e s' h).elim
  | ok fl=>
   cases fl with
   | next=>exact False.elim h
   | brk=>exact False.elim h
   | cont=>exact False.elim h
   | ret u=>
    let⟨v,H',os,p,un,D,r',q⟩:=h;have q':v = .bl true:=q;subst q';obtain rfl:u=Value.bool true:=r';refine⟨rfl,OldK.of_keep λb o e=>?_,os,p⟩;cases q:H b with
    | none=>exact un.keep b o e q (by intro z;exact ub (show b∈([]:L7)from z) (by simp)) (by simp)
    | some u=>
     rcases Y b with z | ⟨ob,xs,z⟩
     .rw[q]at z;cases z
     .have z2:=un.gS b ob _ z;let⟨e1,_⟩:=C b _ z;let⟨e2,_⟩:=D b _ z2
      lia
 cases hk:K.lookup a with
 | some o=>
  have e:=W a o hk;rw[N]at e;cases e;refine j (λ_=>none) (λ_=>.inl rfl) (.inr ⟨_,vs.toArray,_,hk,rfl,rfl,rfl,by simp_all,#v[rv]⟩) (λb u z=>⋯) (λb z=>ub rfl z) λz=>ub rfl z
 | none=>
  refine j (λb=>if b=a then some (.lZ {cls:=.type "list",data:=.seq vs.toArray} (.lst (I.map V.int)))else none) (λb=>?_) (.inl (.inr ⟨{cls:=.type "list",data:=.seq vs.toArray},vd rfl⟩)) (λb u z=>?_) (λb z=>?_) λ_=>hk
  .by_cases g:b=a
   .exact .inr ⟨_,_,vd g⟩
   .exact .inl (vc g)
  .by_cases g:b=a
   .have U:=(vd g).symm.trans z;cases U;subst g;exact⟨N,by simp_all,vs,_,rv,N⟩
   .have U:=(vc g).symm.trans z;cases U
  .by_cases g:b=a
   .exact g
   .exact ub (vc g) z
noncomputable abbrev KOf{K:cG}{h:Heap}(_:K.In h):cG:=K
noncomputable def inClass(s:Stmt)(j:Nat):Stmt:=match s with
 | .ClassDef _ _ _ body _ _ _ _ _ _ _=>body.getD j (.Pass ⟨0,0,0,0⟩)
 | _=>.Pass ⟨0,0,0,0⟩
noncomputable def ec(s:Stmt):Arguments:=match s with
 | .FunctionDef _ a _ _ _ _ _ _ _ _=>a
 | _=>{posonlyargs:=[],args:=[],vararg:=none,kwonlyargs:=[],kw_defaults:=[],kwarg:=none,defaults:=[]}
noncomputable def dM(s:Stmt):List Stmt:=match s with
 | .FunctionDef _ _ b _ _ _ _ _ _ _=>b
 | _=>[]
noncomputable def cf(s:Stmt):Scope:=match s with
 | .FunctionDef _ _ _ _ _ _ sc _ _ _=>sc
 | _=>{kind:=.function,names:=[],isGenerator:=false,isCoroutine:=false}
noncomputable abbrev oZ:m6:=λj j j j j j=>False
noncomputable abbrev E0:XK:=λj j j=>False
def cZ:Passes oZ X E0:=λj j j j j j j h=>h.elim
structure fA(K:cG)(x qual:Str)(st:Stmt)(f:Addr)(fd:FuncData):Prop where
 ex:∃(oc:Value) (od:Option Addr) (kV doc pm:Value) (an:Option Addr) (cdv ct:Value) (NR:Array (Nv)),
  fd=PySem.W.fnOf x qual (ec st) (dM st) (cf st) .none kV doc pm an cdv ct/\K.lookup f=some ⟨oc,od,.func fd,NR⟩/\PySem.W.codeIn K cdv qual=true
 kp:PySem.W.keepIn K (.ref f)=true
section
variable{P:Program}{w:World}{K:cG}{mg:Nw}{base:Heap}
def fA.ok{x a:Str}{st:Stmt}{f:Addr}{g:FuncData}{N ps:L8}{k:Nat}{sp:Sp}(F:fA K x a st f g)(S:ck N ps (cf st))(len:∀vs H Q E,sp vs H Q E->⇑vs=⇑ps)
  (c:∀(b:Value) (A:Around) (outer:Nr) (s:Shared) (H:Hp) (vs:N2) (Q:VK) (E:XK),dB k (A.deeper (envOfC a (cf st) s.heap.objs.size f b))->sp vs H Q E->
   ∃t,i5 (dJ oZ P w K mg base N a (cf st) f b A outer s H E).iw (dM st) t/\t {nx:=λZ H'=>Q .de H',rt:=Q} (start N vs) H):dO P w K mg base oZ (k+1) f g ps sp:=by
 let⟨p,r,kV,i,u,n,b,o,m,rfl,l,d⟩:=F.ex;refine Nm l d S len λA outer s H vs Q E j e=>?_
 let⟨t,h,q⟩:=c b A outer s H vs Q E j e;exact⟨t,h.iw,q⟩
def fA.binds{x a:Str}{st:Stmt}{f:Addr}{g:FuncData}{ps:L8}(F:fA K x a st f g)
  (h:∀(kV c e:Value) (an:Option Addr) (b d:Value) (us:L9),⇑us=⇑ps->bindArgs (PySem.W.fnOf x a (ec st) (dM st) (cf st) .none kV c e an b d) ⟨us,[]⟩=pure (ps.zip us)):Binds K g ps []:=by
 let⟨l,m,kV,c,e,an,b,d,j,rfl,k,i⟩:=F.ex;exact .all (h kV c e an b d)
def jK{x a:Str}{st:Stmt}{f:Addr}{i:Value}{j an:Option Addr}{e:Array (Nv)}{kV d h b g:Value}(l:K.lookup f=some ⟨i,j,.func (PySem.W.fnOf x a (ec st) (dM st) (cf st) .none kV d h an b g),e⟩)
  (c:PySem.W.codeIn K b a=true) (k:PySem.W.keepIn K (.ref f)=true):fA K x a st f (PySem.W.fnOf x a (ec st) (dM st) (cf st) .none kV d h an b g):=⟨⟨i,j,kV,d,h,an,b,g,e,rfl,l,c⟩,k⟩
end
def qp(a:dB k A):A.units+1<cLine:=vD (Nat.add_le_add_left (by decide:1<=64) _) a.units
section
variable{X:Cx}
def pv(i:Nat)(b:X.N[i]?=some x:=by rfl)(d:sQ X.env.scope x:=by first | exact Or.inl rfl | exact Or.inr (Or.inl rfl) | exact Or.inr (Or.inr rfl))(c:(x==("__debug__" : Str))=false:=by decide)
  (a:(x==("__classdict__" : Str))=false:=by decide):PE X (.Name x pos) (fq i):=Mw b d c a
end
def gq{A B:Prop}(h:B):if false=true then A else B:=by
 rw[vc vF];exact h
def eB{A B:Prop}(h:A):if true=true then A else B:=by
 rw[vd rfl];exact h
def cj(H H':Hp):Prop:=∀b o,H b=some o->H' b=some o
def cj.refl(H:Hp):cj H H:=λj j h=>h
def cj.trans{H d e:Hp}(a:cj H d)(b:cj d e):cj H e:=λc o h=>b c o (a c o h)
def cj.seq{K:cG}{H H':Hp}{a:Addr}{xs:N2}(e:cj H H')(h:cm K H a xs):cm K H' a xs:=by
 rcases h with(h | ⟨o,h⟩) | h
 .exact .inl (.inl (e _ _ h))
 .exact .inl (.inr ⟨o,e _ _ h⟩)
 .exact .inr h
section
variable{κ:Type}[DecidableEq κ]
noncomputable def eK(kvs:List (κ×V))(k:κ):N3:=(kvs.find? λkv=>decide (kv.1=k)).map (·.2)
noncomputable def putK(kvs:List (κ×V))(k:κ)(v:V):List (κ×V):=
 if(kvs.any λkv=>decide (kv.1=k))=true then kvs.map (λkv=>if kv.1=k then(kv.1,v)else kv)else kvs++[(k,v)]
def xD{p:κ×V}{r:List (κ×V)}{k:κ}(e:p.1=k):eK (p::r) k=some p.2:=by simp[eK,List.find?_cons,e]
def xC{p:κ×V}{r:List (κ×V)}{k:κ}(e:¬p.1=k):eK (p::r) k=eK r k:=by simp[eK,List.find?_cons,e]
theorem YX(k:κ):∀kvs:List (κ×V),(kvs.any λkv=>decide (kv.1=k))=(eK kvs k).isSome
 | []=>rfl
 | p::r=>by
  rw[any_cons];by_cases e:p.1=k
  .simp only[xD e,decide_eq_true e,Bool.true_or,Option.isSome_some]
  .rw[xC e,vH e,Bool.false_or];exact YX k r
def YE(kvs:List (κ×V))(k:κ)(v:V):⇑(putK kvs k v)<=⇑kvs+1:=by
 unfold putK;split
 .rw[vt];lia
 .rw[vn,vQ,length_nil];lia
def gg.gU(r:gg o u):o.isSome=u.isSome:=by
 cases o with
 | none=>cases u with
  | none=>rfl
  | some _=>exact(show False from r).elim
 | some _=>cases u with
  | none=>exact(show False from r).elim
  | some _=>rfl
def KV.val{kvs:List (κ×V)}{vs:List (κ×Value)}(r:KV kvs vs)(k:κ):gg (eK kvs k) (valueAt vs k):=by
 unfold KV at r
 induction r with
 | nil=>exact True.intro
 | @cons p q ps qs h t ih=>
  let⟨c,d⟩:=h;by_cases e:p.1=k
  .have a:q.1=k:=c.symm.trans e;have b:valueAt (q::qs) k=some q.2:=by simp[valueAt,List.find?_cons,a]
   rw[xD e,b];exact d
  .have a:¬q.1=k:=λz=>e (c.trans z)
   have b:valueAt (q::qs) k=valueAt qs k:=by simp[valueAt,List.find?_cons,a]
   rw[xC e,b];exact ih
def KV.any(r:KV kvs vs)(k:κ):(kvs.any λkv=>decide (kv.1=k))=vs.any λkv=>decide (kv.1=k):=by
 unfold KV at r
 induction r with
 | nil=>rfl
 | cons h t ih=>simp_all
def KV.rO(r:KV kvs vs)(k:κ)(c:RelV y u) :
  KV (kvs.map λkv=>if kv.1=k then(kv.1,y)else kv) (vs.map λkv=>if kv.1=k then(kv.1,u)else kv):=by
 unfold KV at r|-
 induction r with
 | nil=>exact .nil
 | @cons p q ps qs h t ih=>
  rw[uw,uw];refine .cons ?_ ih;let⟨a,b⟩:=h;by_cases e:p.1=k
  .rw[vd e,vd (a.symm.trans e)];exact⟨a,c⟩
  .rw[vc e,vc (λz=>e (a.trans z))];exact⟨a,b⟩
def KV.put(r:KV kvs vs)(k:κ)(a:RelV y u):KV (putK kvs k y) (stored vs k u):=by
 unfold putK stored;rw[r.any k];by_cases e:(vs.any λkv=>decide (kv.1=k))=true
 .rw[vd e,vd e];exact r.rO k a
 .rw[vc e,vc e];exact Paired.snoc r ⟨rfl,a⟩
def KV.keys{kvs:List (κ×V)}{vs:List (κ×Value)}(r:KV kvs vs):kvs.map (·.1)=vs.map (·.1):=by
 unfold KV at r
 induction r with
 | nil=>rfl
 | cons h t ih=>simp_all
def KV.length(r:KV kvs vs):⇑kvs=⇑vs:=Paired.length r
end
def Xu(r:RelV (kV k) u):(cw P w).is k u=true:=by
 cases k with
 | inl i=>let⟨t,e⟩:=(show∃t,u=Value.int i t from r);subst e;exact FF P w i t
 | inr x=>let⟨t,e⟩:=(show∃t,u=Value.str x t from r);subst e;exact FG P w x t
theorem Xt:∀{ks:List Key} {us:L9},Vals (ks.map kV) us->ItemsAre (cw P w) ks us
 | [],_,r=>by rw[map_nil]at r;cases r;exact .nil
 | k::ks,_,r=>by
  rw[uw]at r;cases r with
  | cons h t=>exact .cons (Xu h) (Xt t)
noncomputable abbrev KT(H:Hp):List (List Key×V)->List (List Key×Addr×Value)->Prop:=Paired λp q=>p.1=q.1/\H q.2.1=some (.tup (p.1.map kV))/\RelV p.2 q.2.2
def KT.val{H:Hp}{kvs:List (List Key×V)}{xs:List (List Key×Addr×Value)}(r:KT H kvs xs)(k:List Key):gg (eK kvs k) ((atKey xs k).map (·.2)):=by
 induction r with
 | nil=>exact True.intro
 | @cons p q ps qs h t ih=>
  let⟨c,j,d⟩:=h;by_cases e:p.1=k
  .have a:q.1=k:=c.symm.trans e;have b:atKey (q::qs) k=some q.2:=by simp[atKey,List.find?_cons,a]
   rw[xD e,b];exact d
  .have a:¬q.1=k:=λz=>e (c.trans z)
   have b:atKey (q::qs) k=atKey qs k:=by simp[atKey,List.find?_cons,a]
   rw[xC e,b];exact ih
def KT.rO{H:Hp}(r:KT H kvs xs)(k:List Key)(d:RelV y u) :
  KT H (kvs.map λkv=>if kv.1=k then(kv.1,y)else kv) (xs.map (putAt k u)):=by
 induction r with
 | nil=>exact .nil
 | @cons p q ps qs h t ih=>
  rw[uw,uw];refine .cons ?_ ih;let⟨a,b,c⟩:=h;unfold putAt;by_cases e:p.1=k
  .rw[vd e,vd (a.symm.trans e)];exact⟨a,b,d⟩
  .rw[vc e,vc (λz=>e (a.trans z))];exact⟨a,b,c⟩
def KT.put{H:Hp}(r:KT H kvs xs)(k:List Key)(c:H b=some (.tup (k.map kV)))(a:RelV y u) :
  KT H (putK kvs k y) (storedH xs k b u):=by
 have e:(kvs.any λkv=>decide (kv.1=k))=(atKey xs k).isSome:=by
  rw[YX,(r.val k).gU,Option.isSome_map]
 unfold putK storedH;rw[e];by_cases q:(atKey xs k).isSome=true
 .rw[vd q,vd q];exact r.rO k a
 .rw[vc q,vc q];exact Paired.snoc r ⟨rfl,c,a⟩
def KT.keeps{H H':Hp}(r:KT H kvs xs)(a:∀b ys,H b=some (.tup ys)->H' b=some (.tup ys)):KT H' kvs xs:=
 Paired.tD r λj j z=>⟨z.1,a _ _ z.2.1,z.2.2⟩
section
variable{P:Program}{w:World}{H:Hp}{h:Heap}{a:Addr}
def EH(b:fy P w H h)(e:Rd H a u):cD P w H h a u:=e.ok b
def uT(b:fy P w H h)(e:Rd H a (.dK kvs)):⇑kvs<=sizeLine/\(a==sysModules)=false/\∃vs,KV kvs vs/\h.DictOf (cw P w) a vs:=
 show cD P w H h a (.dK kvs)from EH b e
def WN(b:fy P w H h)(e:H a=some (.dK kvs)):⇑kvs<=sizeLine/\(a==sysModules)=false/\∃vs,KV kvs vs/\h.DictOf (cw P w) a vs:=uT b (.inl e)
def W4(g:fy P w H h)(e:H a=some (.tup (ks.map kV))):(tupleKind (cw P w)).is h ks a:=by
 let⟨j,b,r,o,c,d,n,f⟩:=(show cD P w H h a (.tup (ks.map kV))from g a _ e)
 exact⟨o,b.toArray,n,c,d,f,#v[Xt r]⟩
def uV(d:fy P w H h)(e:Rd H a (.dT kvs)):⇑kvs<=sizeLine/\(a==sysModules)=false/\
  ∃xs,KT H kvs xs/\h.DictOfH (tupleKind (cw P w)) a xs:=by
 let⟨z,y,xs,r,o,g,f,i,j,k,n,s⟩:=(show cD P w H h a (.dT kvs)from EH d e)
 refine⟨z,y,xs,r,o,g,f,i,j,k,n,λx b=>?_,s⟩;have c:∀{l:List (List Key×V)} {m:List (List Key×Addr×Value)},KT H l m->∀x∈m,(tupleKind (cw P w)).is h x.1 x.2.1:=by
  intro l m q
  induction q with
  | nil=>intro x b;exact nomatch b
  | @cons p q ps qs hq t ih=>
   intro x b;rcases mem_cons.mp b with e | b
   .subst e;exact W4 d (by rw[<-hq.1];exact hq.2.1)
   .exact ih x b
 exact c r x b
def Nk(b:fy P w H h)(e:H a=some (.dT kvs)):⇑kvs<=sizeLine/\(a==sysModules)=false/\
  ∃xs,KT H kvs xs/\h.DictOfH (tupleKind (cw P w)) a xs:=uV b (.inl e)
end
def dA(H:Hp)(a:Addr)(y:V)(r:N3):Prop:=
 (∃kvs k,Rd H a (.dK kvs)/\y=kV k/\r=eK kvs k)\/∃kvs k b,Rd H a (.dT kvs)/\y = .ref b/\H b=some (.tup (k.map kV))/\r=eK kvs k
def gM(H:Hp)(a:Addr)(y v:V)(H':Hp):Prop:=
 (∃kvs k,H a=some (.dK kvs)/\y=kV k/\⇑kvs<sizeLine/\H'=upd H a (.dK (putK kvs k v)))\/
 ∃kvs k b,H a=some (.dT kvs)/\y = .ref b/\H b=some (.tup (k.map kV))/\⇑kvs<sizeLine/\H'=upd H a (.dT (putK kvs k v))
def dA.k{H:Hp}{a:Addr}{kvs:List (Key×V)}{k:Key}(e:H a=some (.dK kvs)):dA H a (kV k) (eK kvs k):=.inl ⟨kvs,k,.inl e,rfl,rfl⟩
def gM.k{H:Hp}{a:Addr}{kvs:List (Key×V)}{k:Key}{v:V}(e:H a=some (.dK kvs))(b:⇑kvs<sizeLine):gM H a (kV k) v (upd H a (.dK (putK kvs k v))):=.inl ⟨kvs,k,e,rfl,b,rfl⟩
section
variable{X:Cx}{pins:Ny}{σ:St}{H:Hp}{s:Shared}{a:Addr}{y v:V}{u r:Value}{o:N3}{A:Around}{E:Nz}
def Inv.big(I:Inv X pins σ H s):sysModules<s.heap.objs.size:=by
 have h:mainGlobals<s.heap.objs.size:=(I.mod.glob.keeps I.bk).lt;exact Nat.lt_trans nofun h
def Xo{Q:Nz}(B:A.units+1<cLine)(I:Inv X pins σ H s)(g:dA H a y (some v))(r:RelV y u)(h:∀f s',Inv X pins σ H s'->RelV v f->Q f s') :
  wpAny (model X.prog X.w) A (getItem (.ref a) u) Q E s:=by
 rcases g with⟨q,k,e,j,l⟩ | ⟨q,k,b,e,j,t,l⟩
 .subst j;let⟨z,w,C,c,i⟩:=uT I.cL e;let⟨f,n,d⟩:=gg.some_of (v:=v) (o:=valueAt C k) (by rw[l];exact c.val k);exact wpAny_getItem_of (Xu r) i.mapOf n (h f _ (I.tok _) d)
 .subst j;cases(show u=Value.ref b from r);let⟨z,w,D,c,i⟩:=uV I.cL e;let⟨f,n,d⟩:=gg.some_of (v:=v) (o:=(atKey D k).map (·.2)) (by rw[l];exact c.val k);let⟨p,x,m⟩:=vg.mp n;refine wpAny_getItem_heap (tupleKind_room_in1 B) (W4 I.cL t) i x ?_;rw[m];exact h f _ (I.tok _) d
def NJ{Q:Nz}(p:A.units+1<cLine)(I:Inv X pins σ H s)(g:dA H a y o)(m:RelV y u)(h:∀s',Inv X pins σ H s'->Q (.bool o.isSome) s') :
  wpAny (model X.prog X.w) A (compareOp .In u (.ref a)) Q E s:=by
 rcases g with⟨j,k,e,f,l⟩ | ⟨j,k,b,e,f,n,l⟩
 .subst f;let⟨z,i,r,c,d⟩:=uT I.cL e;refine wpAny_in_of (Xu m) i d.mapOf ?_;rw[<-(c.val k).gU,<-l];exact h _ (I.tok _)
 .subst f;cases(show u=Value.ref b from m);let⟨z,i,t,c,d⟩:=uV I.cL e;refine wpAny_in_heap (tupleKind_room_in1 p) (W4 I.cL n) i d ?_;have q:=(c.val k).gU;rw[Option.isSome_map]at q;rw[<-q,<-l];exact h _ (I.tok _)
def Y1(I:Inv X pins σ H s)(h:sL (H a))(g:Heap.SameBut a s.heap h')(f:∃q,h'.get? a=some q)(c:cD X.prog X.w (upd H a ob) h' a ob) :
  Inv X pins σ (upd H a ob) {s with heap:=h',toks:=t'}:=
 I.write (x:=a) (e:=a) h (.inl rfl) (λb q d z=>(g.2 b d).trans z) f c
def X8{H':Hp}(z:⇑kvs<=sizeLine)(c:(a==sysModules)=false)(b:KV kvs vs)(dd:h'.DictOf (cw P w) a vs) :
  cD P w H' h' a (.dK kvs):=⟨z,c,vs,b,dd⟩
def GA{H':Hp}{Q:Unit->Shared->Prop}(R:A.units+1<cLine)(I:Inv X pins σ H s)(g:gM H a y v H')(G:RelV y u)(F:RelV v r)(h:∀s',Inv X pins σ H' s'->Q () s') :
  wpAny (model X.prog X.w) A (setItem (.ref a) u r) Q E s:=by
 rcases g with⟨d,k,e,o,l,n⟩ | ⟨d,k,b,e,o,B,l,n⟩
 .subst o n;let⟨z,p,S,f,m⟩:=WN I.cL e;have x:⇑S<=sizeLine:=by rw[<-⇑f];exact z
  have t:⇑(putK d k v)<=sizeLine:=by have:=YE d k v;lia
  refine wpAny_setItem_pairs (hsz:=x) (Xu G) m λD i w=>h _ ?_
  have P:∃q,D.get? a=some q:=let ⟨q,_,_,j,_⟩:=i;⟨q,j⟩;exact Y1 I (by rw[e];exact True.intro) w P (X8 t p (f.put k F) i)
 .subst o n;cases(show u=Value.ref b from G);let⟨z,p,T,f,m⟩:=Nk I.cL e;have x:⇑T<=sizeLine:=by rw[<-Paired.length f];exact z
  have t:⇑(putK d k v)<=sizeLine:=by have:=YE d k v;lia
  refine wpAny_setItem_heap (hsz:=x) (tupleKind_room_in1 R) (W4 I.cL B) m λD i w=>h _ ?_
  let⟨q,K,J,j,L,M,N,Z,O⟩:=i;refine Y1 I (by rw[e];exact True.intro) w ⟨q,j⟩ ⟨t,p,_,(f.put k B F).keeps λc U C=>?_,q,K,J,j,L,M,N,O⟩;rw[jg (Jz C e (λz=>nomatch z))];exact C
end
def sM(i:Expr):Prop:=∀ov iv,subscripted i false ov iv=operate [ov,iv] (getItem ov iv)
def LB{prog:Program}{w:World}{A:Around}{E:Nz}{s:Shared}{env:Env}{b a:Expr}{l:Pos}{T q:String}{Q:Nz}
  (n:typeLookup (.type T) "__getitem__"= pure (some (.builtin q))) (p:sM a)
  (h:wpAny (model prog w) A (eval b env) (λo e=>wpAny (model prog w) A (eval a env) (λi c=>c.TypeIs o T/\wpAny (model prog w) A (getItem o i) Q E c) E e) E s) :
  wpAny (model prog w) A (eval (.Subscript b a l) env) Q E s:=by
 refine Subscript_ (wpAny_mono h (λo e j=>wpAny_mono j (λi c d=>?_) λZ Z x=>x) λZ Z x=>x);let⟨m,d⟩:=d;unfold subscriptTail;refine ud ?_;rw[getitemInPython_of_ne m.not_modules];refine ud (wpAny_specialOf m n ?_);have g:wpAny (model prog w) A (subscripted a false o i) (λr f=>wpAny (model prog w) A (letTemporaryGo b o r >>= λZ=>pure r) Q E f) E c:=by
  rw[p o i];exact wpAny_operating (wpAny_mono d (λr f k=>ud (wpAny_letTemporaryGo (uc k))) λZ Z x=>x)
 first
  | exact uc (ud g)
  | exact ud (uc (ud g))
  | exact ud g
def wR{f:St}{H:Hp}(I:Inv X pins f H s)(g:dA H a y o):s.TypeIs (.ref a) "dict":=by
 rcases g with⟨d,k,e,_,_⟩ | ⟨d,k,b,e,_,_,_⟩
 .let⟨_,_,h,_,c⟩:=uT I.cL e;exact c.typeIs
 .let⟨_,_,i,_,c⟩:=uV I.cL e;exact c.typeIs
def pO(td ty:TE):TE:=λσ H Q=>td σ H λx H1=>ty σ H1 λy H2=>∃a v,x = .ref a/\dA H2 a y (some v)/\Q v H2
def tU(ty td:TE):TE:=λσ H Q=>ty σ H λy H1=>td σ H1 λx H2=>∃a o,x = .ref a/\dA H2 a y o/\Q (.bl o.isSome) H2
def pL(td ty tv:TE):TS:=λD σ H=>tv σ H λv H1=>td σ H1 λx H2=>ty σ H2 λy H3=>∃a H4,x = .ref a/\gM H3 a y v H4/\D.nx σ H4
section
variable{X:Cx}{o i e value:Expr}{pos pos' tpos:Pos}{td ty tv:TE}
def Qu(q:X.A.units+1<cLine)(n:PE X o td)(hi:PE X i ty)(p:sM i:=by exact λZ Z=>rfl):PE X (.Subscript o i pos) (pO td ty):=by
 intro b s e H Q I h;refine LB PySem.F.slot_dict_getitem.lookup p (cN (n b s e H _ I h) λu A z_=>?_);let⟨x,f,k,w,r⟩:=z_;refine cN (hi b A e f _ k r) λB C z_=>?_;obtain⟨y,j,d,z,a,v,m,g,t⟩:=z_;subst m;obtain rfl:u=Value.ref a:=w;exact⟨wR d g,Xo q d g z λE D l c=>⟨v,j,l,c,t⟩⟩
def Mt(n:X.A.units+1<cLine)(hi:PE X i ty)(m:PE X o td):PC X .In i o (tU ty td):=by
 intro b s c H Q I h;refine cN (hi b s c H _ I h) λw v z_=>?_;let⟨y,d,f,t,p⟩:=z_;refine cN (m b v c d _ f p) λu z z_=>?_;obtain⟨x,e,j,r,a,ov,l,g,q⟩:=z_
 subst l;obtain rfl:u=Value.ref a:=r;exact NJ n j g t λA k=>⟨.bl ov.isSome,e,k,rfl,q⟩
def yQ(t:X.A.units+1<cLine)(p:PE X o td)(hi:PE X i ty)(w:PE X value tv)(q:swapsWith value (some (.Subscript o i pos')) pos.line X.env=pure false) :
  PS X (.Assign [.Subscript o i pos'] value pos) (pL td ty tv):=by
 intro b s c H D I h;refine wpAny_Assign_Subscript (cN (w b s c H _ I h) λr G z_=>?_) q;let⟨v,d,j,C,z⟩:=z_;refine cN (p b G c d _ j z) λu J z1_=>?_;let⟨x,e,k,E,A⟩:=z1_;refine cN (hi b J c e _ k A) λL M z_=>?_;obtain⟨y,K,l,F,a,f,n,g,B⟩:=z_;subst n;obtain rfl:u=Value.ref a:=E;exact GA t l g F C λN m=>⟨c,f,m,B⟩
end
def BZ{H:Hp}(h:Heap)(a:sysModules<h.objs.size):cD P w H (h.push {cls:=.type "dict",data:=.dict #[]}) h.objs.size (.dK []):=
 ⟨va _,beq_eq_false_iff_ne.mpr (Ne.symm (vE a)),[],.nil,Heap.DictOf.new h⟩
def og:TE:=λj H Q=>∀p,H p=none->Q (.ref p) (upd H p (.dK []))
section
variable{X:Cx}{pos:Pos}
def yg:PE X (.Dict [] [] pos) og:=λb s c H Q I h=>
 wpAny_Dict_empty ⟨.ref s.heap.objs.size,_,I.laid (a:=s.heap.objs.size) (o:=.dK []) (t':=s.toks) (λj j q=>vJ _ q) (vb _) (BZ s.heap I.big),rfl,h _ (I.cL.fresh (vb _))⟩
end
noncomputable def gA:List (TE×TE)->St->Hp->(List (V×V)->Hp->Prop)->Prop
 | [],_,H,Q=>Q [] H
 | (tk,tv)::r,σ,H,Q=>tk σ H λx H1=>tv σ H1 λy H2=>gA r σ H2 λps H3=>Q ((x,y)::ps) H3
noncomputable abbrev VV:List (V×V)->List (Value×Value)->Prop:=Paired λp q=>RelV p.1 q.1/\RelV p.2 q.2
def uy(X:Cx)(pos:Pos)(keys:List (Option Expr))(values:Nt)(trs:List (TE×TE)):Prop:=
 ∀(pins:Ny) (s:Shared) (σ:St) (H:Hp) (Q:List (V×V)->Hp->Prop),Inv X pins σ H s->gA trs σ H Q->
  wpAny (model X.prog X.w) X.A (evalPairs (pairTrees keys values X.env pos)) (λvs s'=>∃ps H',Inv X pins σ H' s'/\VV ps vs/\Q ps H') X.xe s
def Mc{X:Cx}{a:Pos}:uy X a [] [] []:=λb s c H Q I h=>pairTrees_nil_walk ⟨[],H,I,.nil,h⟩
def HK{X:Cx}{b:Pos}{k v:Expr}{ks:List (Option Expr)}{vs:Nt}{f g:TE}{c:List (TE×TE)}(p:PE X k f)(r:PE X v g)(q:uy X b ks vs c) :
  uy X b (some k::ks) (v::vs) ((f,g)::c):=λa s e H Q I h=>
 pairTrees_cons_walk (cN (p a s e H _ I h) λu D ⟨x,i,m,B,w⟩=>cN (r a D e i _ m w) λG E ⟨y,j,n,C,z⟩=>
  cN (q a E e j _ n z) λJ F ⟨t,l,o,d,A⟩=>⟨(x,y)::t,l,o,.cons ⟨B,C⟩ d,A⟩)
noncomputable def dN(kvs more:List (Key×V)):List (Key×V):=more.foldl (λacc kv=>putK acc kv.1 kv.2) kvs
def KV.merge:∀{more:List (Key×V)} {a:List (Key×Value)} {kvs:List (Key×V)} {vs:List (Key×Value)},KV more a->KV kvs vs->KV (dN kvs more) (merged vs a):=by
 intro more a kvs vs r;unfold KV at r
 induction r generalizing kvs vs with
 | nil=>intro q;exact q
 | @cons p q ps qs h t ih=>
  intro b;have e:KV (putK kvs p.1 p.2) (stored vs q.1 q.2):=by
   have:=b.put p.1 h.2;rw[<-h.1];exact this
  exact ih e
theorem zt:∀(more kvs:List (Key×V)),⇑(dN kvs more)<=⇑kvs+⇑more
 | [],kvs=>by show ⇑kvs<=⇑kvs+0;lia
 | p::r,kvs=>by
  have a:=zt r (putK kvs p.1 p.2);have b:=YE kvs p.1 p.2;show(dN (putK kvs p.1 p.2) r).length<=_;rw[vQ];lia
theorem WH{P:Program}{w:World}:∀{kvs:List (Key×V)} {e:List (Value×Value)},VV (kvs.map λkv=>(kV kv.1,kv.2)) e->∃d,Carries (cw P w) e d/\KV kvs d
 | [],_,r=>by rw[map_nil]at r;cases r;exact⟨[],True.intro,.nil⟩
 | p::kvs,_,r=>by
  rw[uw]at r;cases r with
  | @cons a b as bs h t=>
   let⟨d,c,q⟩:=WH (P:=P) (w:=w) t;let⟨g,f⟩:=b;exact⟨(p.1,f)::d,⟨Xu h.1,rfl,c⟩,.cons ⟨rfl,h.2⟩ q⟩
def pP(trs:List (TE×TE)):TE:=λσ H Q=>∀p,H p=none->gA trs σ (upd H p (.dK [])) λps H2=>H2 p=some (.dK [])/\∃kvs:List (Key×V),ps=kvs.map (λkv=>(kV kv.1,kv.2))/\⇑kvs<=15/\Q (.ref p) (upd H2 p (.dK (dN [] kvs)))
def LU{X:Cx}{k:Pos}{b:List (Option Expr)}{d:Nt}{l:List (TE×TE)}(h:uy X k b d l)(g:b.all (·.isSome)=true)(B:⇑b=⇑d)(v:b≠[])
  (m:⇑b<=15):PE X (.Dict b d k) (pP l):=by
 intro j s M H Q I q;have C:=I.cL.fresh (vb s.heap.objs.size);have r:=I.laid (a:=s.heap.objs.size) (o:=.dK []) (h':=s.heap.push {cls:=.type "dict",data:=.dict #[]}) (t':=s.toks) (λZ Z q=>vJ _ q) (vb _) (BZ s.heap I.big);refine wpAny_Dict_walk (knd:=cw X.prog X.w) g B v m (cN (h j _ M _ _ r (q _ C)) λT S z_=>?_);obtain⟨R,N,p,n,e,i,u,O,F⟩:=z_;subst u;let⟨K,c,J⟩:=WH (P:=X.prog) (w:=X.w) n;let⟨z,y,L,G,t⟩:=WN p.cL e;cases G;refine⟨K,c,t,λh' f D=>⟨.ref s.heap.objs.size,_,?_,rfl,F⟩⟩;have E:⇑(dN [] i)<=sizeLine:=by
  have x:=zt i [];rw[length_nil]at x;rw[sizeLine_eq];lia
 have A:∃q,h'.get? s.heap.objs.size=some q:=let ⟨q,_,_,hq,_⟩:=f;⟨q,hq⟩;exact Y1 p (by rw[e];exact True.intro) D A (X8 E y (J.merge .nil) f)
structure M1(X:Cx)(o:Expr)(m:Str)(apos:Pos)(e:Expr)(cpos:Pos):Prop where
 base:attributeBase o m X.env (eval o X.env)=eval o X.env
 zy:((backTo cpos (starEach [e] X.env)).all (λx=>!x.1)&&(backToKw cpos (keywordEach [] X.env)).all (λx=>x.1.isSome)
  && decide (⇑([e]:Nt)+⇑([]:List Keyword)+(if([]:List Keyword).isEmpty then 0 else 1)<30))=true
 line:(apos.endLine==cpos.line)=true
 trees:backTo cpos (starEach [e] X.env)=[(false,eval e X.env)]
section
variable{κ:Type}[DecidableEq κ]
def La{kvs:List (κ×V)}{k:κ}(h:eK kvs k=none):¬k∈kvs.map (·.1):=by
 intro m;let⟨p,a,e⟩:=vK.mp m;have q:(kvs.any λkv=>decide (kv.1=k))=true:=any_eq_true.mpr ⟨p,a,vG e⟩;rw[YX,h]at q;exact ub q (by simp)
def LF{kvs:List (κ×V)}{k:κ}{v:V}(h:eK kvs k=some v):k∈kvs.map (·.1):=by
 have q:(kvs.any λkv=>decide (kv.1=k))=true:=by
  rw[YX,h]
  all_goals rfl
 simp_all
end
def mT{R:Result->Shared->Prop}(I:Nat->Shared->Prop)
  (u:∀n s,I n s->wpAny (model prog w) A (pyNext it) (λr b=>match r with
   | none=>R (.ok .next) b
   | some v=>wpAny (model prog w) A (letOwnedTupleGo target it v) (λZ g=>wpAny (model prog w) A (assign target env v) (λZ i=>
     wpAny (model prog w) A (forIn ifs true λc r=>if r=true then do let t <-isTrue c env (eval c env);pure (ForInStep.yield t)else pure (ForInStep.yield r)) (λt d=>
      if t=true then wpAny (model prog w) A (eval elt env) (λx j=>
       wpAny (model prog w) A (call (.builtin "list.append") [acc,x]) (λZ k=>∃m,m<n/\I m k) (λZ Z=>False) j) (λZ Z=>False) d
      else∃m,m<n/\I m d) (λZ Z=>False) i) (λZ Z=>False) g) (λZ Z=>False) b) (λZ Z=>False) s)
  (n:Nat) (h:I n s) :
  codeAny (model prog w) A (.compLoop (.ListComp elt [⟨target,iter,ifs,0⟩] scope pos) 0 it acc env) R s:=by
 refine codeAny_loop rfl I (λn s y=>?_) n h;show wpAny _ A ((compTurn (.ListComp elt [⟨target,iter,ifs,0⟩] scope pos) 0 it acc env).onRaise (λx=>do noteFrame x env;theTreesLotGoes x)) _ _ s;refine wpAny_noted ?_;rw[compTurn_list];refine ud (wpAny_standAt (ud (wpAny_mono (u n s y) (λr b e=>?_) λZ Z a=>a.elim)));cases r with
 | none=>exact uc e
 | some v=>
  refine ud (wpAny_mono e (λZ g l=>?_) λZ Z a=>a.elim);refine ud (wpAny_mono l (λZ i o=>ud (wpAny_mono o (λt d f=>?_) λZ Z a=>a.elim)) λZ Z a=>a.elim);cases t with
  | false=>exact uc ⟨rfl,f⟩
  | true=>
   exact ud (ud (wpAny_mono f (λx j p=>ud (wpAny_mono p (λZ k q=>uc (uc ⟨rfl,q⟩)) λZ Z a=>a.elim)) λZ Z a=>a.elim))
def PF(X:Cx)(ifs:Nt)(t:TT):Prop:=
 ∀(pins:Ny) (s:Shared) (σ:St) (H:Hp) (Q:Bool->Hp->Prop),Inv X pins σ H s->t σ H Q->
  wpAny (model X.prog X.w) X.A (forIn ifs true λc r=>if r=true then do let ok <-isTrue c X.env (eval c X.env);pure (ForInStep.yield ok)else pure (ForInStep.yield r)) (TP X pins σ Q) X.xe s
def um:TT:=λj H Q=>Q true H
def qS:PF X [] um:=λj j j H j I h=>wpAny_tests_nil ⟨H,I,h⟩
def AG(b:PT X c t):PF X [c] t:=λa s d H Q I h=>wpAny_tests_one (b a s d H Q I h)
noncomputable def dI(env:Env):List (Str×NameKind)->List (Str×Addr)->List (Str×Addr)
 | [],acc=>acc
 | (n,k)::r,acc=>dI env r (if k == .free then(n,(env.cells.lookup n).getD 0)::acc else acc)
def Kg(h:∀y∈scope.names,y.2 = .free->∃c,env.cells.lookup y.1=some c):closureFor scope env=pure (dI env scope.names []):=by
 have l:∀(names:List (Str×NameKind)) (b:List (Str×Addr)),(∀y∈names,y.2 = .free->∃c,env.cells.lookup y.1=some c)->
   (forIn (m:=Sem) names b λx r=>(match x with | (name,kind)=>if(kind == .free)=true then do let a <-cellOf env name;pure (ForInStep.yield ((name,a)::r))else pure (ForInStep.yield r)))=pure (dI env names b):=by
  intro names
  induction names with
  | nil=>intro b Z;rfl
  | cons y r ih=>
   let⟨n,k⟩:=y;intro b d;rw[List.forIn_cons];cases hk:(k==NameKind.free)with
   | true=>
    have e:k = .free:=by simpa using hk
    let⟨c,i⟩:=d (n,k) vq e;have j:cellOf env n=pure c:=by unfold cellOf;rw[i]
    simp only[hk,if_true,j,pure_bind,dI,i,Option.getD_some];exact ih _ λy f=>d y (vp _ f)
   | false=>
    simp only[hk,Bool.false_eq_true,if_false,pure_bind,dI];exact ih _ λy f=>d y (vp _ f)
 have g:=l scope.names [] h;unfold closureFor;simp only[g,pure_bind]
theorem Xn:∀(names:List (Str×NameKind)) (a:List (Str×Addr)),(∀y∈names,y.2 = .free->∃c,env.cells.lookup y.1=some c)->(∀x c,a.lookup x=some c->env.cells.lookup x=some c)->
  ∀x c,(dI env names a).lookup x=some c->env.cells.lookup x=some c
 | [],_,_,ha,x,c,h=>ha x c h
 | (n,k)::r,a,hh,ha,x,c,h=>by
  refine Xn r _ (λy f=>hh y (vp _ f)) (λx c e=>?_) x c h;cases hk:(k==NameKind.free)with
  | false=>rw[hk]at e;exact ha x c e
  | true=>
   rw[hk]at e;have b:k = .free:=by simpa using hk
   let⟨g,d⟩:=hh (n,k) vq b;simp only[if_true,d,Option.getD_some]at e;rw[lookup_cons]at e;cases hx:(x==n)with
   | true=>
    rw[hx]at e;have:x=n:=by simpa using hx
    rw[this,d];exact e
   | false=>rw[hx]at e;exact ha x c e
theorem Xm:∀(names:List (Str×NameKind)) (a:List (Str×Addr)) (x:Str),(∃c,a.lookup x=some c)->∃c,(dI env names a).lookup x=some c
 | [],_,_,h=>h
 | (n,k)::r,a,x,h=>by
  refine Xm r _ x ?_;cases hk:(k==NameKind.free)with
  | false=>exact h
  | true=>
   simp only[if_true];rw[lookup_cons];cases hx:(x==n)with
   | true=>exact⟨_,rfl⟩
   | false=>exact h
theorem K6:∀(names:List (Str×NameKind)) (a:List (Str×Addr)) (x:Str),(x,NameKind.free)∈names->∃c,(dI env names a).lookup x=some c
 | [],_,_,h=>by simp at h
 | (n,k)::r,a,x,h=>by
  rcases mem_cons.mp h with e | h
  .cases e;refine Xm r _ _ ?_;simp
  .exact K6 r _ x h
theorem Zr{env:Env}:∀{names:List (Str×NameKind)} {x:Str} {k:NameKind},(names.map λ(n,k)=>if(k==NameKind.free&&env.scope.kind == .function&&env.kindOf n==some .cell)then(n,NameKind.cell)else(n,k)).lookup x=some k->
  ∃b,(x,b)∈names/\names.lookup x=some b/\(b=k\/(b = .free/\k = .cell))
 | [],_,_,h=>by simp at h
 | (n,k₀)::r,x,k,h=>by
  have i:=@Zr env r x k;rw[uw]at h;dsimp only at h;cases hx:x==n with
  | true=>
   have e:x=n:=by simpa using hx
   subst e;refine⟨k₀,vq,by simp,?_⟩;by_cases a:(k₀==NameKind.free&&env.scope.kind == .function&&env.kindOf x==some .cell)=true
   .rw[vd a]at h;simp only[lookup_cons,beq_self_eq_true]at h;simp only[Bool.and_eq_true,beq_iff_eq]at a;exact .inr ⟨a.1.1,(vL h).symm⟩
   .rw[vc a]at h;simp only[lookup_cons,beq_self_eq_true]at h;exact .inl (vL h)
  | false=>
   have c:(r.map λ(n,k)=>if(k==NameKind.free&&env.scope.kind == .function&&env.kindOf n==some .cell)then(n,NameKind.cell)else(n,k)).lookup x=some k:=by
    by_cases a:(k₀==NameKind.free&&env.scope.kind == .function&&env.kindOf n==some .cell)=true
    .rw[vd a]at h;simpa only[lookup_cons,hx]using h
    .rw[vc a]at h;simpa only[lookup_cons,hx]using h
   let⟨b,d,f,g⟩:=i c;exact⟨b,vp _ d,by simpa only[lookup_cons,hx]using f,g⟩
theorem K5:∀(names:List (Str×NameKind)) (n:Nat) (a:List (Str×Addr)) (x:Str) (c:Addr),(cellsFrom n names a).lookup x=some c->n<=c\/a.lookup x=some c
 | [],_,_,_,_,h=>.inr h
 | (y,k)::r,n,a,x,c,h=>by
  unfold cellsFrom at h;split at h
  .rcases K5 r (n+1) _ x c h with q | q
   .exact .inl ⋯
   .rw[lookup_cons]at q;cases hx:x==y with
    | true=>rw[hx]at q;cases q;exact .inl (vb _)
    | false=>rw[hx]at q;exact .inr q
  .exact K5 r n a x c h
theorem AD:∀(names:List (Str×NameKind)) (n:Nat) (a:List (Str×Addr)),(∀x c,a.lookup x=some c->c<n)->(∀x y c,a.lookup x=some c->a.lookup y=some c->x=y)->
  ∀x y c,(cellsFrom n names a).lookup x=some c->(cellsFrom n names a).lookup y=some c->x=y
 | [],_,_,_,hi,x,y,c,h1,h2=>hi x y c h1 h2
 | (z,k)::r,n,a,hb,hi,x,y,c,h1,h2=>by
  unfold cellsFrom at h1 h2;split at h1
  .rename_i hk;rw[vd hk]at h2;refine AD r (n+1) _ (λx c e=>?_) (λx y c d b=>?_) x y c h1 h2
   .rw[lookup_cons]at e;cases hx:x==z with
    | true=>rw[hx]at e;cases e;exact Nat.lt_succ_self _
    | false=>rw[hx]at e;exact Nat.lt_succ_of_lt (hb x c e)
   .rw[lookup_cons]at d b;cases hx:x==z with
    | true=>
     rw[hx]at d;cases d;cases hy:y==z with
     | true=>rw[beq_iff_eq.mp hx,beq_iff_eq.mp hy]
     | false=>rw[hy]at b;exact ub (hb y n b) (Nat.lt_irrefl _)
    | false=>
     rw[hx]at d;cases hy:y==z with
     | true=>rw[hy]at b;cases b;exact ub (hb x n d) (Nat.lt_irrefl _)
     | false=>rw[hy]at b;exact hi x y c d b
  .rename_i hk;rw[vc hk]at h2;exact AD r n a hb hi x y c h1 h2
theorem X3:∀(names:List (Str×NameKind)) (n:Nat) (a:List (Str×Addr)) (x:Str),(∃c,a.lookup x=some c)->∃c,(cellsFrom n names a).lookup x=some c
 | [],_,_,_,h=>h
 | (y,k)::r,n,a,x,h=>by
  unfold cellsFrom;split
  .refine X3 r (n+1) _ x ?_;rw[lookup_cons];cases hx:x==y with
   | true=>exact⟨_,rfl⟩
   | false=>exact h
  .exact X3 r n a x h
theorem AB:∀(names:List (Str×NameKind)) (n:Nat) (a:List (Str×Addr)) (x:Str),(x,NameKind.cell)∈names->∃c,(cellsFrom n names a).lookup x=some c
 | [],_,_,_,h=>by simp at h
 | (y,k)::r,n,a,x,h=>by
  unfold cellsFrom;rcases mem_cons.mp h with e | h
  .cases e;simp only[beq_self_eq_true,if_true];exact X3 r _ _ _ (by simp)
  .split
   .exact AB r _ _ x h
   .exact AB r _ _ x h
theorem AF:∀(names:List (Str×NameKind)) (n:Nat) (a:List (Str×Addr)) (x:Str),(x,NameKind.cell)∉names->(cellsFrom n names a).lookup x=a.lookup x
 | [],_,_,_,_=>rfl
 | (y,k)::r,n,a,x,h=>by
  have b:(x,NameKind.cell)∉r:=λq=>h (vp _ q)
  unfold cellsFrom;split
  .rename_i hk;rw[AF r _ _ x b,lookup_cons];cases hx:x==y with
   | true=>rw[beq_iff_eq.mp hx,beq_iff_eq.mp hk]at h;exact ub vq h
   | false=>rfl
  .exact AF r n a x b
theorem AE:∀(names:List (Str×NameKind)) (a n:Nat) (b:List (Str×Addr)) (x:Str) (c:Addr),a<=n->((x,NameKind.cell)∈names\/∀c,b.lookup x=some c->a<=c)->(cellsFrom n names b).lookup x=some c->a<=c
 | [],_,_,_,_,c,_,h,e=>h.elim (λz=>by simp at z) λz=>z c e
 | (y,k)::r,a,n,b,x,c,hn,h,e=>by
  unfold cellsFrom at e;split at e
  .refine AE r a (n+1) _ x c ⋯ ?_ e;rcases h with h | h
   .rcases mem_cons.mp h with q | q
    .cases q;exact .inr λc q=>by rw[lookup_cons,beq_self_eq_true]at q;cases q;exact hn
    .exact .inl q
   .refine .inr λc q=>?_
    rw[lookup_cons]at q;cases hx:x==y with
    | true=>rw[hx]at q;cases q;exact hn
    | false=>rw[hx]at q;exact h c q
  .rename_i hk;refine AE r a n b x c hn ?_ e
   grind
theorem WI:∀(names:List (Str×NameKind)) (h:Heap) (a:List (Str×Addr)) (x:Str) (c:Addr),(cellsFrom h.objs.size names a).lookup x=some c->a.lookup x=some c\/(pushCells h names).IsCell c none
 | [],_,_,_,_,e=>.inl e
 | (y,k)::r,h,a,x,c,e=>by
  unfold cellsFrom at e;unfold pushCells;split
  .rename_i hk;rw[vd hk]at e;rw[<-Heap.size_push h {cls:=.type "cell",data:=.cell none}]at e;rcases WI r _ _ x c e with q | q
   .rw[lookup_cons]at q;cases hx:x==y with
    | true=>
     rw[hx]at q;cases q;exact .inr ⟨_,pushCells_keeps _ _ _ _ (Heap.get?_push_size _ rfl),rfl⟩
    | false=>rw[hx]at q;exact .inl q
   .exact .inr q
  .rename_i hk;rw[vc hk]at e;exact WI r h a x c e
def ym{E:Nz}{Q:Env->Shared->Prop}
  (h:Q (newEnv scope s.heap.objs.size globals (cellsFrom (s.heap.objs.size+1) scope.names cl) qual none .none (some env) builtinsNs) {s with heap:=pushCells (s.heap.push {cls:=.type "dict",data:=.dict #[]}) scope.names}) :
  wpAny M A (newFunctionEnv scope globals cl [] qual none .none (some env)) Q E s:=by
 simp only[newFunctionEnv,Option.isSome_some,if_true];refine ud (wpAny_alloc ?_);refine ud (wpAny_layCells _ (λc a b=>by cases hkc:a==NameKind.cell<;>simp[hkc]) _ _ _ _ ?_);rw[show({s with heap:=s.heap.push {cls:=.type "dict",data:=.dict #[]}}:Shared).heap.objs.size=s.heap.objs.size+1 from Heap.size_push ..];rw[List.forIn_nil];exact ud (uc (uc h))
noncomputable def mR(X:Cx)(scope:Scope)(ow:L8)(ci:L6)(C:Addr)(s₀:Shared)(H₀:Hp)(ex:L7)(pn:Ny):Cx:=
 {X with N:=ow++ci.map λj=>X.N.getD j "",s₀:=s₀,H₀:=H₀,env:=compEnvC scope (cellsFrom (C+1) scope.names (dI X.env scope.names [])) C X.env,outer:=X.stack,stack:=X.stack,ex:=ex,fn:=λx=>scope.names.lookup x==some .cell,pn:=pn,xe:=λZ Z=>False}
structure cq(X:Cx)(scope:Scope)(ow:L8)(ci:L6):Prop where
 kind:scope.kind = .function
 cell:∀y∈scope.names,y.2 = .cell->scope.names.lookup y.1=some .cell
 names:∀y∈scope.names,y.2 = .local->scope.names.lookup y.1=some .local
 free:∀y∈scope.names,y.2 = .free->X.env.kindOf y.1=some .cell\/X.env.kindOf y.1=some .free
 ix:∀j∈ci,j<X.N.length/\scope.names.lookup (X.N.getD j "")=some .free
noncomputable def nM(dQ:Scope)(N:L8)(scope:Scope)(ci:L6):Bool:=
 scope.kind == .function&&scope.names.all (λy=>y.2 != .cell||scope.names.lookup y.1==some .cell)&&scope.names.all (λy=>y.2 != .local||scope.names.lookup y.1==some .local) &&
 scope.names.all (λy=>y.2 != .free||dQ.names.lookup y.1==some .cell||dQ.names.lookup y.1==some .free)&&ci.all (λj=>decide (j<⇑N)&&scope.names.lookup (N.getD j "")==some .free)
def cq.of(a:Scope)(N:L8)(c:X.env.scope=a)(d:X.N=N)(h:nM a N scope ci=true):cq X scope ow ci:=by
 subst c d;unfold nM at h;simp only[Bool.and_eq_true,all_eq_true,Bool.or_eq_true,bne_iff_ne,ne_eq,beq_iff_eq,decide_eq_true_eq]at h;let⟨⟨⟨⟨f,g⟩,i⟩,k⟩,l⟩:=h;refine⟨f,λy b e=>(g y b).resolve_left λz=>z e,λy b e=>?_,λy b e=>?_,λj m=>l j m⟩
 .rcases i y b with z | z
  .exact ub e z
  .exact z
 .rcases k y b with(z | z) | z
  .exact ub e z
  .exact .inl z
  .exact .inr z
def j6{a:Hp}(N:L8)(e:X.N=N)(h:(ow++ci.map λj=>N.getD j "").Nodup):(mR X scope ow ci C s₀ a ex pn).N.Nodup:=by
 subst e;exact h
noncomputable def nK(σ:St)(j:Nat):N3:=match σ[j]? with | some o=>o | none=>none
noncomputable def dH(n:Nat)(ci:L6)(σ:St):St:=List.replicate n none++ci.map (nK σ)
def n6(wi:TI)(n:Nat)(ci:L6)(g:TG)(tf:TT)(te:TE):TE:=λσ H Q=>wi σ H λJ H1=>∃W:Nat->Nat->N2->Hp->Prop,(∃m,W 0 m [] H1)/\∀i m ys H,W i m ys H->
 (J.stop i H/\⇑ys<=sizeLine/\∀p,H p=none->Q (.ref p) (upd H p (.lst ys)))\/
 (J.go i H/\∃N:N2->Hp->Prop,(∀ys' H',N ys' H'->∃m',m'<m/\W (i+1) m' ys' H')/\∀x H',J.lT i H x H'->g x (dH n ci σ) H' λσ2 H2=>tf σ2 H2 λb H3=>
  if b=true then te σ2 H3 λv H4=>⇑ys<sizeLine/\N (ys++[v]) H4 else N ys H3)
section
variable{X:Cx}{pins:Ny}{σ:St}{H:Hp}{s:Shared}{elt iter tg:Expr}{ifs:Nt}{scope:Scope}{pos:Pos}{ow:L8}{ci:L6}{g:TG}{tf:TT}{te:TE}
def cq.cells(S:cq X scope ow ci)(b:X.Ok):∀y∈scope.names,y.2 = .free->∃c,X.env.cells.lookup y.1=some c:=λy a e=>b.has y.1 (S.free y a e)
def cq.sub(S:cq X scope ow ci)(a:X.Ok):∀x c,(dI X.env scope.names []).lookup x=some c->X.env.cells.lookup x=some c:=
 Xn scope.names [] (S.cells a) λj j e=>by simp at e
def cq.v3(S:cq X scope ow ci)(a:X.Ok)(h:(cellsFrom (C+1) scope.names (dI X.env scope.names [])).lookup x=some c):C+1<=c\/X.env.cells.lookup x=some c:=
 (K5 _ _ _ _ _ h).imp id (S.sub a x c)
def Mo(S:cq X scope ow ci)(I:Inv X pins σ H s)(f:s.heap.objs.size<=C)
  (a:∀b∈ex,b<s.heap.objs.size/\gf X pins H b):(mR X scope ow ci C s H ex pn).Ok where
 mod:=I.ok.mod
 kind:=S.kind
 glob:=I.ok.glob
 blt:=I.ok.blt
 above:=f
 inj:=AD scope.names (C+1) _ (λx c e=>by
   let⟨v,q⟩:=I.cell x c (S.sub I.ok x c e);exact Nat.lt_succ_of_le (vY (Nat.lt_of_lt_of_le q.lt f))) λx y c i j=>I.ok.inj x y c (S.sub I.ok x c i) (S.sub I.ok y c j)
 has:=λx h=>by
  have n:∃k,(relabel scope X.env).names.lookup x=some k/\(k = .cell\/k = .free):=by
   rcases h with h | h
   .exact⟨_,h,.inl rfl⟩
   .exact⟨_,h,.inr rfl⟩
  let⟨k,r,t⟩:=n;let⟨m,l,Z,e⟩:=Zr (env:=X.env) r;have g:m = .cell\/m = .free:=by
   lia
  rcases g with g | g
  .subst g;exact AB scope.names _ _ x l
  .subst g;exact X3 scope.names _ _ x (K6 scope.names [] x l)
 rx:=λx c h e=>vW (vW f (Nat.le_succ _)) (AE scope.names (C+1) (C+1) _ x c (vb _) (.inl (PySem.mem_of_lookup (beq_iff_eq.mp h))) e)
 hd:=I.ok.hd
 frames:=I.ok.frames
 md:=.inl rfl
 uG:=λb d=>⟨vE (Nat.lt_of_lt_of_le (a b d).1 f),λx c e=>(S.v3 I.ok e).elim (λq z=>Nat.lt_irrefl _ (Nat.lt_of_lt_of_le (z▸(a b d).1) (vW f (vW (Nat.le_succ _) q)))) λq=>(a b d).2.2.2.2.2.1 x c q⟩
 bs:=I.bs
 nJ:=vW I.ok.nJ I.sz
 my:=λb o e d=>by
  let⟨Z,Z,Z,p,Z⟩:=(a b d).2;rcases p with z | z
  .exact I.ok.my b o e z
  .exact ub (Nat.lt_of_lt_of_le (vI e) (vW I.ok.nJ z)) (Nat.lt_irrefl _)
 mV:=λb d z=>by
  let⟨Z,i,j,Z⟩:=(a b d).2;rcases mem_cons.mp (I.iR b z)with e | e
  .exact i e
  .exact j e
 gE:=I.stack
 oJ:=I.iz
def Gw(S:cq X scope ow ci)(I:Inv X pins σ H s){h:Nw}(A:s.heap.objs.size<=C)
  (D:∀b∈ex,b<s.heap.objs.size/\gf X pins H b) (U:h₁.Ns C h) (k:∀b o,s.heap.get? b=some o->h₁.get? b=some o)
  (y:∀x c,(cellsFrom (C+1) scope.names (dI X.env scope.names [])).lookup x=some c->(dI X.env scope.names []).lookup x=some c\/h₁.IsCell c none) :
  Inv (mR X scope ow ci C s H ex (X.pn++pins)) [] (dH ⇑ow ci σ) H {s with heap:=h₁,toks:=t₁}:=by
 have ok:=Mo (pn:=X.pn++pins) S I A D;refine⟨ok,rfl,I.bare,Un.kept k,⟨h,U,λi x v O f P=>?_⟩,λx c e=>?_,I.cL.fresh A,λx c e=>(S.v3 I.ok e).elim (λq=>I.cL.fresh (vW A (vW (Nat.le_succ _) q))) (I.dW x c),λp W=>?_,I.cL.kept k,?_⟩
 .have l:(ow++ci.map λj=>X.N.getD j "")[i]?=some x:=O;unfold dH at f;by_cases F:i<⇑ow
  .rw[vB #v[F],List.getElem?_replicate,vd F]at f;cases f
  .rw[vC #v[F],vv,List.length_replicate]at f;rw[vC ⋯,vv]at l;cases hj:ci[i-⇑ow]? with
   | none=>rw[hj]at f;cases f
   | some j=>
    rw[hj]at l f;let⟨hl,E⟩:=S.ix j (vm hj);have B:X.N.getD j ""= x:=vL l;have Q:X.N[j]?=some x:=by
     simp_all
    have R:σ[j]?=some (some v):=by
     have a:nK σ j=some v:=vL f;unfold nK at a;cases q:σ[j]? with
     | none=>rw[q]at a;cases a
     | some o=>rw[q]at a;rw[show o=some v from a]
    rw[B]at E;have g:(x,NameKind.free)∈scope.names:=PySem.mem_of_lookup E;have L:=S.free _ g rfl;let⟨m,_,G⟩:=I.loc;have K:sQ X.env.scope x:=by
     rcases L with q | q
     .exact .inr (.inl q)
     .exact .inr (.inr q)
    let⟨u,r,Y⟩:=G j x v Q R K;refine⟨u,r,.inr ⟨?_,?_⟩⟩
    .rcases P with q | q | q
     .let⟨k',_,h2,h3⟩:=Zr (env:=X.env) q
      lia
     .exact .inl q
     .exact .inr q
    .rcases Y with⟨q,_⟩ | ⟨_,c,T,t⟩
     .have M:X.env.kindOf x=some .local:=q;rcases L with z | z<;>(rw[z]at M;cases M)
     .let⟨N,w⟩:=K6 (env:=X.env) scope.names [] x g;have e:=S.sub I.ok x N w;rw[T]at e;cases e;refine⟨c,?_,t.keeps k⟩;show(cellsFrom (C+1) scope.names (dI X.env scope.names [])).lookup x=some c;rw[AF scope.names _ _ x λz=>?_]
      .exact w
      .have:=S.cell _ z rfl;rw[E]at this;cases this
 .rcases y x c e with q | q
  .let⟨v,q⟩:=I.cell x c (S.sub I.ok x c q);exact⟨v,q.keeps k⟩
  .exact⟨_,q⟩
 .have J:p∈X.pn++pins:=by
   rcases vh.mp W with z | z
   .exact z
   .cases z
  let⟨e,n,Z,nf,d⟩:=I.pin p J;refine⟨k _ _ e,n,vE (Nat.lt_of_lt_of_le (vI e) A),λz=>?_,d⟩;rcases mem_cons.mp (I.iR p.1 z)with q | q
  .exact Z q
  .exact nf q
 .show(dH ⇑ow ci σ).length=(ow++ci.map λj=>X.N.getD j "").length;simp[dH]
def Inv.forget{S':St}(I:Inv X pins S' H s)(n:Nat)(ci:L6)(a:St)(c:⇑(dH n ci a)=X.N.length)(h:∀i v,n<=i->(dH n ci a)[i]?=some (some v)->S'[i]?=some (some v)):Inv X pins (dH n ci a) H s:=
 I.weak (by rw[c,I.len]) λi v e=>by
  by_cases b:n<=i
  .exact h i v b e
  .unfold dH at e;rw[vB #v[b],List.getElem?_replicate,vd ⋯]at e;cases e
def gN(n:Nat)(g:TG):Prop:=∀x σ H (Q:St->Hp->Prop),g x σ H Q->g x σ H λσ2 H2=>(∀(i:Nat) v,n<=i->σ[i]?=some (some v)->σ2[i]?=some (some v))/\Q σ2 H2
def Qs(h:i<n):gN n (cC i):=λx b H Q q=>⟨λj v a e=>by rw[List.getElem?_set_ne ⋯];exact e,q⟩
def Y5{K:cG}{n i j:Nat}(hi:i<n)(p:j<n):gN n (mX K 2 (dX (cC i) (dX (cC j) mW))):=λx t H Q q=>by
 let⟨a,o,b,c,d,v,r,f,m,l,g,h,q⟩:=q;refine⟨a,o,b,c,d,v,r,f,m,l,g,h,λk u s e=>?_,q⟩;rw[List.getElem?_set_ne ⋯,List.getElem?_set_ne ⋯];exact e
def WJ{E:Nz}{tn:Nat->Heap->Prop}{RR:Value->Addr->Result->Shared->Prop}(hc:X.calm=true)(S:cq X scope ow ci)(hk:gN ⇑ow g)
  (a:∀C F y ex pn,PG (mR X scope ow ci C F y ex pn) tg g/\PF (mR X scope ow ci C F y ex pn) ifs tf/\PE (mR X scope ow ci C F y ex pn) elt te)
  (I:Inv X pins σ H s) (T:Turn X.prog X.w X.K tg J fp it tn) (st:tn 0 s.heap) (hf:∀b∈fp,gf X pins H b) (Z:N2->Hp->Prop)
  (W:Nat->Nat->N2->Hp->Prop) (w0:∃m,W 0 m [] H)
  (aO:∀i m ys H,W i m ys H->(J.stop i H/\⇑ys<=sizeLine/\Z ys H)\/
   (J.go i H/\∃N:N2->Hp->Prop,(∀aP H',N aP H'->∃m',m'<m/\W (i+1) m' aP H')/\∀x H',J.lT i H x H'->g x (dH ⇑ow ci σ) H' λaQ H2=>tf aQ H2 λb H3=>
    if b=true then te aQ H3 λv H4=>⇑ys<sizeLine/\N (ys++[v]) H4 else N ys H3))
  (aX:∀D C s' H' m ys,Inv X pins σ (upd H' D (.lst ys)) s'->H' D=none->Z ys H'->s'.heap.Ns C m->s.heap.objs.size<=C->C≠D->H' C=none->RR (.ref D) C (.ok .next) s') :
  wpAny (model X.prog X.w) X.A (newList []) (λan aM=>wpAny (model X.prog X.w) X.A (newFunctionEnv scope X.env.globals (dI X.env scope.names []) [] X.env.qual none .none (some X.env)) (λa6 aN=>
   codeAny (model X.prog X.w) X.A (.compStart (.ListComp elt [⟨tg,iter,ifs,0⟩] scope pos) 0 (.ref it) an {a6 with scope:=relabel scope X.env}) (RR an a6.locals) aN) E aM) E s:=by
 refine wpAny_newObj_type (ym ?_);dsimp only;generalize O:({s with heap:=s.heap.push {cls:=.type "list",dict:=none,data:=.seq ([]:L9).toArray}}:Shared)=s3;have e3:s3.heap=s.heap.push {cls:=.type "list",dict:=none,data:=.seq ([]:L9).toArray}:=by rw[<-O]
 rw[<-e3];generalize ad:pushCells (s3.heap.push {cls:=.type "dict",data:=.dict #[]}) scope.names=h₁;have k3:∀b o,s.heap.get? b=some o->s3.heap.get? b=some o:=λb o e=>by rw[e3];exact vJ _ e
 have hsz:s3.heap.objs.size=s.heap.objs.size+1:=by rw[e3,Heap.size_push]
 have I3:Inv X pins σ H s3:=by rw[<-O];exact I.kept (t':=s.toks) λb o e=>vJ _ e
 have b3:s3.heap.get? s.heap.objs.size=some {cls:=.type "list",dict:=none,data:=.seq ([]:L9).toArray}:=by rw[e3];exact Heap.get?_push_size _ rfl
 generalize ac:s.heap.objs.size=D at *;generalize l:s3.heap.objs.size=C at *;have A:D<C:=⋯
 have ar:H D=none:=I.cL.fresh (Nat.le_of_eq ac);have aY:gf X pins H D:=I.ie (Nat.le_of_eq ac) ar;have ae:∀(b:Addr) o,s.heap.get? b=some o->b<D:=λb o e=>by rw[<-ac];exact vI e
 have bc:∀(b:Addr) o,s3.heap.get? b=some o->b<C:=λb o e=>by rw[<-l];exact vI e
 have a8:∀b∈fp,b<D:=λb a=>by
  let⟨o,e,_⟩:=T.obj 0 _ st b a;exact ae b o e
 have G:∀b∈D::fp,b<s3.heap.objs.size/\gf X pins H b:=λb a=>by
  rw[l];rcases mem_cons.mp a with rfl | a
  .exact⟨A,aY⟩
  .exact⟨Nat.lt_trans (a8 b a) A,hf b a⟩
 have kk:∀b o,s3.heap.get? b=some o->h₁.get? b=some o:=λb o e=>by rw[<-ad];exact pushCells_keeps _ _ b o (vJ _ e)
 have M:h₁.Ns C λ_=>none:=by rw[<-ad,<-l];exact(Heap.Ns.new s3.heap (.type "dict")).keeps (pushCells_keeps _ _)
 have ay:∀x c,(cellsFrom (C+1) scope.names (dI X.env scope.names [])).lookup x=some c->(dI X.env scope.names []).lookup x=some c\/h₁.IsCell c none:=λx c e=>by
  rw[<-ad];refine WI scope.names _ _ x c ?_;rw[Heap.size_push,l];exact e
 let⟨hg,av,he⟩:=a C s3 H (D::fp) (X.pn++pins);generalize w:mR X scope ow ci C s3 H (D::fp) (X.pn++pins)=Y at hg av he;have f:Y.prog=X.prog:=by rw[<-w];rfl
 have Yw:Y.w=X.w:=by rw[<-w];rfl
 have YK:Y.K=X.K:=by rw[<-w];rfl
 have YA:Y.A=X.A:=by rw[<-w];rfl
 have Yc:Y.calm=true:=by rw[<-w];exact hc
 have h:Y.env=compEnvC scope (cellsFrom (C+1) scope.names (dI X.env scope.names [])) C X.env:=by rw[<-w];rfl
 have aa:Y.xe=λ_ _=>False:=by rw[<-w];rfl
 have am:Y.fs=fz X.stack:=by rw[<-w];rfl
 have al:Y.ex=D::fp:=by rw[<-w];rfl
 have aV:Y.pn=X.pn++pins:=by rw[<-w];rfl
 have Ys:Y.s₀=s3:=by rw[<-w];rfl
 have YH:Y.H₀=H:=by rw[<-w];rfl
 have YN:⇑(dH ⇑ow ci σ)=Y.N.length:=by rw[<-w];show(dH ⇑ow ci σ).length=(ow++ci.map λj=>X.N.getD j "").length;simp[dH]
 have af:∀b∈D::fp,b≠Y.env.locals/\b∉Y.fs/\b∈Y.ex/\(∀x c,Y.env.cells.lookup x=some c->c≠b)/\∀p∈Y.pn,p.1≠b:=λb a=>by
  let⟨h0,h1,h2,h3,h4,h5⟩:=(G b a).2;refine⟨by rw[h];exact vE (l▸(G b a).1),λz=>?_,by rw[al];exact a,λx c e=>?_,by rw[aV];exact h5⟩
  .rw[am]at z;rcases mem_cons.mp (I.iR b z)with q | q
   .exact h1 q
   .exact h2 q
  .rw[h]at e;rcases S.v3 I.ok e with q | q
   .exact λz=>Nat.lt_irrefl _ (Nat.lt_of_lt_of_le (l▸(G b a).1) (vW (Nat.le_succ _) (z▸q)))
   .exact h4 x c q
 have aE:D∉fp:=λz=>Nat.lt_irrefl _ (a8 D z)
 have aC:∀s4:Shared,Inv Y [] (dH ⇑ow ci σ) H s4->tn 0 s4.heap->s4.heap.PlainList D #[]->
   codeAny (model X.prog X.w) X.A (.compLoop (.ListComp elt [⟨tg,iter,ifs,0⟩] scope pos) 0 (.ref it) (.ref D) (compEnvC scope (cellsFrom (C+1) scope.names (dI X.env scope.names [])) C X.env)) (RR (.ref D) C) s4:=by
  intro s4 J4 Q ag;let⟨m0,w0⟩:=w0;refine mT (λn s'=>∃i ys k H',Inv Y [] (dH ⇑ow ci σ) H' s'/\tn i s'.heap/\(∀b∈fp,H' b=none)/\H' D=none/\s'.heap.PlainList D k/\Vals ys k.toList/\W i n ys H') ?_ m0
   ⟨0,[],#[],H,J4,Q,λb a=>(hf b a).1,ar,ag,.nil,w0⟩
  rintro n s5 ⟨i,ys,k,U,J5,aJ,ap,t,⟨aG,b8⟩,R,w5⟩;have vl:⇑ys=k.size:=by have:=⇑R;simpa using this
  have eF:∀{H':Hp} {s':Shared} {ai:St},Inv Y [] ai H' s'->H' D=none->∀{o:Obj},s'.heap.get? D=some o->(∀v,o.data≠.cell v)->Inv Y [(D,o)] ai H' s':=λ{H' s' ai} K hD o e d=>
   K.pins_of λp hp=>by
    have ep:p=(D,o):=by simpa using hp
    subst ep;let⟨a1,a2,_⟩:=af D vq;exact⟨e,hD,a1,a2,d⟩
  have P5:=eF J5 t b8 (λv z=>by cases z);have ab:∀{H':Hp},(∀b∈fp,H' b=none)->∀{o:Obj},∀b∈fp,gf Y [(D,o)] H' b:=λ{H'} hn {o} b a=>by
   let⟨a1,a2,a3,a4,a5⟩:=af b (vp _ a);refine⟨hn b a,a1,a2,.inl a3,a4,λp hp=>?_⟩;rcases vh.mp hp with q | q
   .exact a5 p q
   .have ep:p=(D,o):=by simpa using q
    subst ep;exact λz=>aE (by have z':D=b:=z;rw[z'];exact a)
  rcases aO i n ys U w5 with⟨aL,aB,z5⟩ | ⟨go,NN,as,aK⟩
  .have d:=T.done Y f Yw YK Yc i [(D,_)] s5 _ U (λ_ _=>False) P5 (ab ap) aJ aL;rw[YA]at d;refine cN d λr s6 z_=>?_;obtain⟨hr,J6⟩:=z_
   subst hr;have D6:=(J6.pin (D,_) (mem_append_right _ vq)).1;let⟨mC,aw,_⟩:=J6.loc;rw[h]at aw;have ax:s6.heap.Ns C mC:=aw;have b2:U C=none:=by have:=J6.free;rw[h]at this;exact this
   refine aX D C s6 U mC ys ?_ t z5 ax (vY A) (Nat.ne_of_gt A) b2;have B:=J6.base;rw[am,al,YH,Ys]at B;have aD:∀b o,s.heap.get? b=some o->b≠D/\b≠C:=λb o e=>⟨vE (ae b o e),vE (Nat.lt_trans (ae b o e) A)⟩
   have P:∀b o,s.heap.get? b=some o->b∉fp->b∉D::fp:=λb o e a z=>by
    rcases mem_cons.mp z with q | q
    .exact(aD b o e).1 q
    .exact a q
   have uN:Un (fz X.stack) fp H (upd U D (.lst ys)) s.heap s6.heap:=by
    refine⟨λb o e n a hx=>B.keep b o (k3 b o e) n a (P b o e hx),λb o e n a hx=>B.slot b o (k3 b o e) n a (P b o e hx),λb o e n hx=>?_,λb o e hx=>B.there b o (k3 b o e) (P b o e hx),λb xs q=>?_,λb o u q=>?_,λb ps q=>?_⟩
    .rw[jg (aD b o e).1];exact B.free b o (k3 b o e) n (P b o e hx)
    .rw[jg (je (B.eJ b xs q) t)];exact B.eJ b xs q
    .rw[jg (je (B.gS b o u q) t)];exact B.gS b o u q
    .let⟨mo,q'⟩:=B.iS b ps q;exact⟨mo,by rw[jg (je q' t)];exact q'⟩
   have az:fy X.prog X.w U s6.heap:=by rw[<-f,<-Yw];exact J6.cL
   have aA:fy X.prog X.w (upd U D (.lst ys)) s6.heap:=λb u e=>by
    by_cases au:b=D
    .subst au;rw[jA]at e;cases e;exact⟨aB,k.toList,_,R,#v[D6]⟩
    .rw[jg au]at e;exact(az b u e).iQ (λc v _ q=>q) (λc q=>by rw[jg (je q t)];exact q) λc xs q=>by rw[jg (je q t)];exact q
   refine I.pk (by rw[J6.os,Ys,<-O]) uN aA J6.bare λb a=>?_
   let⟨h0,h1,h2,h3,h4,h5⟩:=hf b a;exact⟨h3,h1,h4,h5⟩
  .have d:=T.item Y f Yw YK Yc i [(D,_)] s5 _ U (λ_ _=>False) P5 (ab ap) aJ go;rw[YA]at d;refine cN d λr s6 z_=>?_;obtain⟨u,hr,h6⟩:=z_
   subst hr;refine cN h6 λ_ s7 z_=>?_;obtain⟨x,H7,J7,r7,y7,ah,aZ⟩:=z_
   have aS:=J7.pinned (ab aZ) (T.obj _ _ ah);have h8:=hg _ s7 _ H7 x u _ aS r7 (hk _ _ _ _ (aK x H7 y7));rw[f,Yw,YA,h,aa]at h8;refine cN h8 λ_ s8 z_=>?_;obtain⟨aj,H8,J8,b6,q8⟩:=z_
   have h9:=av _ s8 aj H8 _ J8 q8;rw[f,Yw,YA,h,aa]at h9;refine cN h9 λb s9 z_=>?_;obtain⟨H9,J9,q9⟩:=z_
   have a0:∀{H':Hp} {s':Shared},Inv Y ([(D,({cls:=.type "list",data:=.seq k aG}:Obj))]++iE fp s7.heap) aj H' s'->Inv Y [] (dH ⇑ow ci σ) H' s'/\tn (i+1) s'.heap/\(∀b∈fp,H' b=none)/\H' D=none/\s'.heap.get? D=some {cls:=.type "list",data:=.seq k aG}:=λ{H' s'} K=>by
    have pD:=K.pin (D,_) (mem_append_right _ (mem_append_left _ vq));refine⟨(K.pins_of (pins':=[]) (by simp)).forget _ _ _ YN (λj v hj e=>b6 j v hj e),T.keep _ _ _ ah λb a o e=>(K.pin (b,o) (mem_append_right _ (mem_append_right _ (yM a e)))).1,λb a=>?_,pD.2.1,pD.1⟩;let⟨o,e,_⟩:=T.obj _ _ ah b a;exact(K.pin (b,o) (mem_append_right _ (mem_append_right _ (yM a e)))).2.1
   cases b with
   | false=>
    rw[vc vF]at q9|-;let⟨m',hm,w9⟩:=as _ _ q9;let⟨K9,ba,b0,b4,e9⟩:=a0 J9;exact⟨m',hm,i+1,ys,k,H9,K9,ba,b0,b4,⟨_,e9⟩,R,w9⟩
   | true=>
    rw[vd rfl]at q9|-;have aq:=he _ s9 aj H9 _ J9 q9;rw[f,Yw,YA,h,aa]at aq;refine cN aq λz aH z_=>?_;obtain⟨v,ak,aR,b9,b5,b7⟩:=z_
    let⟨m',hm,bb⟩:=as _ _ b7;let⟨aT,aI,ao,a7,aW⟩:=a0 aR;refine wpAny_list_append_plain (hsz:=by rw[<-vl];exact vY b5) ⟨_,aW⟩ λb1 aF a9=>?_
    let⟨a1,a2,a3,a4,a5⟩:=af D vq;have aU:Inv Y [] (dH ⇑ow ci σ) ak {aH with heap:=b1}:=aT.turned (t':=aH.toks) (λb o a e=>(a9.2 b a).trans e) a7 a1 (.inl a3) a4 (λp hp=>a5 p #v[hp]);refine⟨m',hm,i+1,ys++[v],k.push z,ak,aU,T.keep _ _ _ aI λb a o e=>(a9.2 b (λq=>aE (q▸a))).trans e,ao,a7,aF,?_,bb⟩;rw[Array.toList_push];exact R.append (.cons b9 .nil)
 have J4:Inv Y [] (dH ⇑ow ci σ) H {s3 with heap:=h₁}:=by
  rw[<-w];exact Gw (t₁:=s3.toks) S I3 (Nat.le_of_eq l) G M kk ay
 have Q:tn 0 h₁:=T.keep _ _ _ st λb _ o e=>kk b o (k3 b o e)
 have ag:h₁.PlainList D #[]:=⟨_,kk _ _ b3⟩
 have L:=aC _ J4 Q ag;subst O;exact codeAny_compStart_list L (T.self _ 0 _ _ _ Q L)
variable{wi:TI}
def JO(O:X.calm=true)(S:cq X scope ow ci)(P:gN ⇑ow g)(hi:PI X tg iter wi)
  (n:∀C c a ex pn,PG (mR X scope ow ci C c a ex pn) tg g/\PF (mR X scope ow ci C c a ex pn) ifs tf/\PE (mR X scope ow ci C c a ex pn) elt te)
  (U:∀x,foldedSetIterable iter X.env x=pure x:=by intro Y;rfl):PE X (.ListComp elt [⟨tg,iter,ifs,0⟩] scope pos) (n6 wi ⇑ow ci g tf te):=by
 intro d s u H Q I h;rw[eval_ListComp];refine wpAny_comprehension_free (use:=none) rfl U (Kg (S.cells I.ok)) S.kind S.names (cN (hi d s u H _ I h) λv s1 G=>cN G λY s2 L=>?_);let⟨it,fp,tn,J,H2,e,t,T,r,fCt,W,w0,f⟩:=L;subst e;refine WJ (RR:=λj C=>compPost (model X.prog X.w) X.A X.xe none (EP X d u Q) j C) O S P n t T r fCt (λi H=>∀p,H p=none->Q (.ref p) (upd H p (.lst i))) W w0 f λD C Z H' m i K N z R M l k=>?_
 refine⟨m,R,λh' q=>⟨.ref D,upd H' D (.lst i),?_,rfl,z D N⟩⟩;let⟨w,y,A,B,E,F⟩:=t.ie (H':=upd H' D (.lst i)) M (by rw[jg l];exact k);exact K.turned (t':=Z.toks) (λb o n e=>(q.2 b n).trans e) w y B E F
def Ap(hc:X.calm=true)(S:cq X scope ow ci)(hk:gN ⇑ow g)(hN:X.N.Nodup)(A:X.N[i]?=some x)(hx:Loc X.env.scope x)(hi:PI X tg iter wi)
  (t:∀C f c ex pn,PG (mR X scope ow ci C f c ex pn) tg g/\PF (mR X scope ow ci C f c ex pn) ifs tf/\PE (mR X scope ow ci C f c ex pn) elt te)
  (y:swapsWith (.ListComp elt [⟨tg,iter,ifs,0⟩] scope pos) (some (.Name x px)) spos.line X.env=pure true:=by rfl)
  (hf:X.fn x=true\/X.env.scope.names.lookup x=some .local:=by and_intros)
  (hs:∀x,foldedSetIterable iter X.env x=pure x:=by intro _;rfl):PS X (.Assign [.Name x px] (.ListComp elt [⟨tg,iter,ifs,0⟩] scope pos) spos) (nX (n6 wi ⇑ow ci g tf te) (cC i)):=by
 intro d s M H D I h;rw[exec_Assign_Name_used _ _ _ _ y];refine ud (wpAny_standAt (ud ?_));show wpAny _ X.A (do let _ <-comprehension (.ListComp elt [⟨tg,iter,ifs,0⟩] scope pos) scope X.env _ (newList []) false (eval iter X.env) (some (assign (.Name x px) X.env))) _ _ s;refine ud (wpAny_mono (wpAny_comprehension_free (use:=some (assign (.Name x px) X.env)) (Q:=λ_ j=>SP X d D .next j) rfl hs (Kg (S.cells I.ok)) S.kind S.names
  (cN (hi d s M H _ I h) λv s1 Z=>cN Z λa0 s2 h2=>?_)) (λ_ j hq=>uc (uc hq)) λ_ _ e=>e)
 let⟨it,fp,tn,J,H2,e,F,T,B,fCt,W,w0,k⟩:=h2;subst e;refine WJ (RR:=λl C=>compPost (model X.prog X.w) X.A X.xe (some (assign (.Name x px) X.env)) (λ_ j=>SP X d D .next j) l C) hc S hk t F T B fCt
  (λE H=>∀p,H p=none->cC i (.ref p) M (upd H p (.lst E)) D.nx) W w0 k λP C j H' m E K hD z hn hC r n=>?_
 let⟨O,G,R,U,L,Y⟩:=F.ie (H':=upd H' P (.lst E)) hC (by rw[jg r];exact n);show wpAny _ X.A (assign (.Name x px) X.env (.ref P)) _ _ j;refine wpAny_assign_Name (XJ K hN A hx (v:=.ref P) rfl (λs3 N z_=>?_) hf);let⟨a,w,ha⟩:=z_;refine⟨m,hn.sameBut w ?_,λh' u=>?_⟩
 .rcases ha with q | q
  .rw[q];exact G
  .exact λz=>L x a q z.symm
 .exact⟨_,_,N.turned (t':=s3.toks) (λb o t e=>(u.2 b t).trans e) O G U L Y,z P hD⟩
def WK{lo:Int}{n k:Nat}{ci:L6}{g:TG}{q:TT}{o:TE}{r:St}{H:Hp}{Z:Addr->N2->Hp->Prop}(c:Nat->N2->Hp->Prop)(s:c 0 [] H)
  (u:∀i ys H,i<n->c i ys H->g (.int (lo+i)) (dH k ci r) H λa H2=>q a H2 λb h=>if b=true then o a h λv j=>⇑ys<sizeLine/\c (i+1) (ys++[v]) j else c (i+1) ys h)
  (t:∀ys H,c n ys H->⇑ys<=sizeLine/\∀p,H p=none->Z p ys H) :
  ∃W:Nat->Nat->N2->Hp->Prop,(∃m,W 0 m [] H)/\∀i m ys H,W i m ys H->
   ((ou lo n).stop i H/\⇑ys<=sizeLine/\∀p,H p=none->Z p ys H)\/
   ((ou lo n).go i H/\∃N:N2->Hp->Prop,(∀f H',N f H'->∃l,l<m/\W (i+1) l f H')/\∀x H',(ou lo n).lT i H x H'->g x (dH k ci r) H' λa H2=>q a H2 λb h=>
    if b=true then o a h λv j=>⇑ys<sizeLine/\N (ys++[v]) j else N ys h):=by
 refine⟨λi m ys H=>m=n-i/\i<=n/\c i ys H,⟨n,by simp,va _,s⟩,?_⟩;rintro i m ys H ⟨rfl,z,p⟩;by_cases d:i<n
 .refine .inr ⟨d,c (i+1),λf H' w=>⟨n-(i+1),⋯,rfl,d,w⟩,λx H' y=>?_⟩;let⟨e,y⟩:=y;subst e y;exact u i ys _ d p
 .have e:i=n:=⋯
  subst e;exact .inl ⟨vb _,t ys H p⟩
def JJ{K:cG}{a:Addr}{xs:N2}{k:Nat}{ci:L6}{g:TG}{r:TT}{o:TE}{s:St}{H:Hp}{Z:Addr->N2->Hp->Prop}(d:Nat->N2->Hp->Prop)(t:d 0 [] H)(z:∀i ys H,i<=⇑xs->d i ys H->cm K H a xs)
  (A:∀i x ys H,xs[i]?=some x->d i ys H->g x (dH k ci s) H λc H2=>r c H2 λb h=>if b=true then o c h λv l=>⇑ys<sizeLine/\d (i+1) (ys++[v]) l else d (i+1) ys h)
  (u:∀ys H,d ⇑xs ys H->⇑ys<=sizeLine/\∀p,H p=none->Z p ys H) :
  ∃W:Nat->Nat->N2->Hp->Prop,(∃m,W 0 m [] H)/\∀i m ys H,W i m ys H->
   ((oB K a).stop i H/\⇑ys<=sizeLine/\∀p,H p=none->Z p ys H)\/
   ((oB K a).go i H/\∃N:N2->Hp->Prop,(∀f H',N f H'->∃n,n<m/\W (i+1) n f H')/\∀x H',(oB K a).lT i H x H'->g x (dH k ci s) H' λc H2=>r c H2 λb h=>
    if b=true then o c h λv l=>⇑ys<sizeLine/\N (ys++[v]) l else N ys h):=by
 refine⟨λi m ys H=>m=⇑xs-i/\i<=⇑xs/\d i ys H,⟨⇑xs,by simp,va _,t⟩,?_⟩;rintro i m ys H ⟨rfl,w,p⟩;have q:=z i ys H w p;by_cases j:i<⇑xs
 .refine .inr ⟨⟨xs,xs[i],q,by simp[j]⟩,d (i+1),λf H' B=>⟨⇑xs-(i+1),⋯,rfl,j,B⟩,λx H' y=>?_⟩;let⟨e,y⟩:=y;subst e;exact A i x ys _ (y xs q) p
 .have e:i=⇑xs:=⋯
  subst e;exact .inl ⟨⟨xs,q,vb _⟩,u ys H p⟩
end
def DL:(10:Nat)^250<2^831:=by decide +kernel
def BV(a : -10^250<=x)(b:x<=10^250):Builtin.Int.intBits x<=1048576:=by
 refine vW (PySem.intBits_le_iff.mpr ?_:Builtin.Int.intBits x<=831) nofun;have:x.natAbs<=10^250:=⋯
 exact vD this DL
def tE(a : -10^250<=x)(b:x<=10^250)(c : -10^250<=y)(d:y<=10^250):IntMulOk x y:=.of_bits (BV a b) (BV c d)
section
variable{X:Cx}
def Q0:gn X (binaryOp .Mult) (rI IntMulOk λi j=>.int (i*j)):=uX λZ Z Z Z Z Z Z a q=>mul_int q a
def oY(_ j:Int):Prop:=0<j/\j<=10^250
def sS(a:0<j)(b:j<=10^250):oY i j:=⟨a,b⟩
def Jj:gn X (binaryOp .FloorDiv) (rI oY λi j=>.int (i/j)):=uX λi j Z Z Z Z Z a q=>by
 have b:(0:Int)<j:=a.1;have c:j<=10^250:=a.2;refine floordiv_int ⋯ ?_ (.inl (PyProof.noPylong_of_log2 ?_))
 .rw[Int.fdiv_eq_ediv_of_nonneg _ ⋯];exact q
 .have e:j.natAbs<=10^250:=⋯
  have g:j.natAbs.log2<831:=(Nat.log2_lt ⋯).mpr (vD e DL);lia
def GV:dE X (.builtin "isinstance") (λxs H Q=>∃x T t b,xs=[x,.ty T]/\gQ X.K H x t/\PySem.W.kitOne X.K t (.type T)=some b/\Q (.bl b) H):=by
 intro a s j H xs i Q I r h;let⟨x,T,t,b,rfl,ty,e,q⟩:=h;let⟨u,f,rfl,d,c⟩:=vals2 r;cases(show f=Value.type T from c);exact GH I d ty e λg=>⟨.bl b,H,I.tok _,rfl,q⟩
def GP{E:Nz}{Q:Nz}(y:A.handled=none)(d:s.heap.IsList l (intItems xs))
  (h:∀h' tk t',(∀b o,s.heap.get? b=some o->h'.get? b=some o)->Q (.int (preSum (numAt xs) xs.size) t') {s with heap:=h',toks:=tk}) :
  wpAny (model prog w) A (call (.builtin "sum") [.ref l]) Q E s:=by
 let⟨o,m,B,n,C⟩:=id d;have f:l≠s.heap.objs.size:=vE (vI m);have g:(intItems xs).size=xs.size:=by simp[intItems]
 have W:=(Walks.list (prog:=prog) (w:=w) (A:=A.in1) y s.heap.objs.size l f (intItems xs)).toS;rw[g]at W;refine call_sum_walkAnyS (wpAny_pyIter_list d ?_);refine⟨s.heap.objs.size,_,_,_,_,_,_,numAt xs,rfl,W,⟨⟨_,Heap.get?_push_size _ rfl,rfl,rfl⟩,d.at λo e=>vJ _ e⟩,λb a=>?_,λi v x=>intItems_at x,λz t' c=>?_⟩
 .rcases mem_cons.mp a with rfl | a
  .simp_all
  .obtain rfl:=vo.mp a;exact vI (vJ _ m)
 .let⟨h',u,p,k,j⟩:=z;have q:u=s.gens:=c.gens;have r:p=s.drawn:=c.drawn;have t:j=s.os:=c.os;subst q r t;exact h h' k t' λb o e=>c.heap b o (λa=>ub (vI e) ((vo.mp a)▸Nat.lt_irrefl _)) (vJ _ e)
def K4(g:X.calm=true):dE X (.builtin "sum") (λxs H Q=>∃(p:Addr) (b:L5),xs=[.ref p]/\cm X.K H p (b.map V.int)/\Q (.int b.sum) H):=by
 intro f s z H xs x Q I r h;let⟨p,b,rfl,j,q⟩:=h;let⟨u,rfl,n⟩:=vals1 r;cases n;let⟨a,m,l,t⟩:=I.list j;have d:IntsAre a b:=intsAre_of m;let⟨y,k⟩:=d.allInts.items;have c:numsOf a.toArray.toList=b:=by rw[show a.toArray.toList=a from rfl,d.numsOf]
 have e:=l.isList;rw[k]at e c;rw[nums_intItems]at c;refine GP (I.ok.hd g) e λo w v i=>?_
 rw[preSum_eq,take_of_length_le (by simp),c];exact⟨.int b.sum,H,I.kept i,⟨_,rfl⟩,q⟩
end
end L2
namespace Att
open PySem PySem.W PySem.Calls PyProof.Rows
theorem wQ:∀(a:L5) (x:Int),x∈a->Builtin.Int.intBits x<=WData.weightAll (a.map WData.int)
 | [],_,h=>by cases h
 | n::r,x,h=>by
  show _<=WData.weight (.int n)+1+WData.weightAll (r.map WData.int);rcases mem_cons.mp h with e | h
  .subst e;have e:Builtin.Int.intBits x=WData.weight (.int x):=by
    unfold Builtin.Int.intBits WData.weight;rfl
   lia
  .have:=wQ r x h;lia
def XX{l:OpenLaw}{n:Nat}{q:Program}{c:L8}{XP:(Nw)->Heap->Prop}{D:World->Heap->Prop}{d:DefRec}
  (Q:l.most=some n) (y:d.params.defaults=[])
  (k:∀(w:World) (e b:Shared) (mg B:Nw) (fa:Addr) (o:Obj) (C u h:Value) (a:Addr) (vs:L9) (g:L5),
   Ground q c [] XP w e mg B b.heap->D w b.heap->
   b.heap.get? fa=some o->o.data = .func (docDef d.name d.params d.body d.scope C u h)->b.heap.CodeRec u d.name->mg d.name=↥fa->
   b.heap.get? a=some {cls:=.type "list",data:=.seq vs.toArray}->IntsAre vs g->⇑g<=n->(∀x∈g,Builtin.Int.intBits x<=1048576)->b.gens = #[]->
   codeAny (model l.prog w) callerA (.call (.ref fa) ⟨[.ref a],[]⟩) (λr s'=>r = .ok (.ret (.bool true))/\OldK b.heap s'.heap/\s'.os=b.os/\AllBare s'.gens) b) :
  WalkO q c XP D l.row.toRowW d [] (λf vs=>PySem.call f vs):=by
 intro w e b mg B G Y fa o C u h I kV R M v F z N E H X t m T A O;obtain rfl:I = .none:=Dflts.none F y;obtain rfl:kV = .none:=Dflts.noKw F;let⟨a,vs,g,rfl,rfl,s,j,p⟩:=Ho Q t A;have i:∀x∈g,Builtin.Int.intBits x<=1048576:=by
  have U:(WData.list (g.map WData.int)).weight<=2^20:=(layableW_iff.mp (layW_cons m).1).2.2;intro x W;exact vW (wQ g x W) U
 refine enter_call (codeAny_mono (k w e b mg B fa o C u h a vs g G Y R (fd_plain M) v z s j p i N) λr s' S=>?_);let⟨rfl,J,K,L⟩:=S;exact⟨.inl ⟨.bool true,.bool true,[],rfl,λZ=>rfl,.bool true,Hh l _,λZ=>⟨List.Pairwise.nil,λZ P=>(nomatch P)⟩⟩,J,K,L⟩
end Att
namespace L2
open PySem PySem.Spec PyProof.Rows
def Io{l:PySem.W.OpenLaw}{n k:Nat}{q:Program}{i:L8}{XP:(Nw)->Heap->Prop}{D:World->Heap->Prop}{d:DefRec}{K:Params->cG}{CX:m6}{sp:cG->Sp}{x:Str}
  (T:l.most=some n) (z:n<=sizeLine) (t:d.params.defaults=[]) (U:dB k callerA)
  (O:∀(w:World) (h:Heap),D w h->(K w.params).In h)
  (F:∀(w:World) (mg:Nw) (fa:Addr) (h:Heap),(K w.params).In h->h.Ns mainGlobals mg->mg d.name=↥fa->
   ∃fd:FuncData,(∀(s:Shared) (u:Value),BindsTo s fd ⟨[u],[]⟩ [(x,u)])/\
    ∀base:Heap,(K w.params).In base->base.Ns mainGlobals mg->dO l.prog w (K w.params) mg base CX k fa fd [x] (sp (K w.params)))
  (B:∀(K:cG) (H:Hp) (a:Addr) (m:L5),⇑m<=n->(∀x∈m,Builtin.Int.intBits x<=1048576)->rj H->cm K H a (m.map V.int)->sp K [.ref a] H (λv _=>v = .bl true) λ_ _ _=>False)
  (r:∀(H:Hp) (s:Shared) (e:Value) (s':Shared),CX [] H s (λ_ _ _=>False) e s'->False) :
  PySem.W.WalkO q i XP D l.row.toRowW d [] (λf vs=>PySem.call f vs):=by
 refine Att.XX T t λw I p mg mb fa o pm W J a vs m G Y Z X R y j g b c S=>?_
 have C:=O w _ Y;let⟨fd,P,L⟩:=F w mg fa _ C G.T.g y;exact HQ C G.T.g G.T.b G.T.builtins G.T.nolimit S j g (vW b z) U L P (λH M N=>B _ H a m b c M N) λH e s'=>r H p e s'
def SP.nx{R:St->Hp->Prop}(a:∀S' H',R S' H'->D.nx S' H')(h:SP X pins {D with nx:=R} f s):SP X pins D f s:=by
 cases f with
 | next=>let⟨S',H',I,q⟩:=h;exact⟨S',H',I,a _ _ q⟩
 | brk=>exact h
 | cont=>exact h
 | ret u=>exact h
def BG(c:TT)(t u:TS):TS:=λD σ H=>∃R:St->Hp->Prop,(∀S' H',R S' H'->D.nx S' H')/\rQ c t u {D with nx:=R} σ H
def Q2(j:PT X c tc)(g:i5 X a t)(i:i5 X b u):PS X (.If c a b pos) (BG tc t u):=by
 intro d s k H D I h;let⟨R,e,h⟩:=h;exact cN (jP j g i d s k H _ I h) λf l q=>q.nx e
open PySem
def Jp:bootBuiltins "len"= some (.builtin "len"):=by decide +kernel
def Az:bootBuiltins "max"= some (.builtin "max"):=by decide +kernel
def X0:bootBuiltins "min"= some (.builtin "min"):=by decide +kernel
def AA:bootBuiltins "sum"= some (.builtin "sum"):=by decide +kernel
def qE:bootBuiltins "isinstance"= some (.builtin "isinstance"):=by decide +kernel
def Ay:bootBuiltins "abs"= some (.builtin "abs"):=by decide +kernel
def Xi:bootBuiltins "sorted"= some (.builtin "sorted"):=by decide +kernel
def zU:bootBuiltins "list"= some (.type "list"):=by decide +kernel
def zG:bootBuiltins "tuple"= some (.type "tuple"):=by decide +kernel
def IA:bootBuiltins "dict"= some (.type "dict"):=by decide +kernel
def XZ:bootBuiltins "enumerate"= some (.type "enumerate"):=by decide +kernel
def Mp:bootBuiltins "zip"= some (.type "zip"):=by decide +kernel
def E4:bootBuiltins "reversed"= some (.type "reversed"):=by decide +kernel
def HM(K:cG)(t:Value)(h:(t==t)=true):PySem.W.kitOne K t t=some true:=by unfold PySem.W.kitOne;rw[vd h]
def Xw(K:cG)(c:(Value.type a==Value.type b)=false)(d:PySem.W.kitMeta b=true)(e:PySem.W.subIn [] (.type a) (.type b)=some v):PySem.W.kitOne K (.type a) (.type b)=some v:=by
 unfold PySem.W.kitOne;rw[vc (by rw[c];exact vF)];show(if PySem.W.kitMeta b=true then _ else _)=_;rw[vd d];exact e
def Fv{K:cG}:PySem.W.kitOne K (.type "int") (.type "tuple")=some false:=Xw K (by decide +kernel) (by decide +kernel) (by decide +kernel)
def wo{K:cG}:PySem.W.kitOne K (.type "NoneType") (.type "tuple")=some false:=Xw K (by decide +kernel) (by decide +kernel) (by decide +kernel)
def xL{K:cG}:PySem.W.kitOne K (.type "tuple") (.type "tuple")=some true:=HM K _ (by decide +kernel)
section
variable{X:Cx}{tg:Expr}
def Et:r8 X (λx lo hi H Q=>∃z,x = .str z/\⇑z<=sizeLine/\Q (.str (Txt.slice z lo hi)) H):=by
 intro b s n H x v p r lo hi o Q I m c g e h;let⟨z,rfl,d,q⟩:=h;let⟨t,rfl⟩:=m;refine⟨"str",_,F.slot_str_getitem.lookup,typeIs_str _ _ _,?_⟩;have a:∀(lo hi:Nu),Q (.str (Txt.slice z lo hi)) H->∀f k,EP X b n Q (.str (Txt.slice z lo hi) f) {s with toks:=k}:=λlo hi q f k=>⟨.str _,H,I.tok _,⟨_,rfl⟩,q⟩
 cases g with
 | none=>
  cases e with
  | none=>exact wpAny_getItem_str_slice (l:=none) (u:=none) (st:=none) c rfl (post_val_or_str ⟨vW (Txt.slice_le z _ _) d,a _ _ q⟩)
  | int j uj=>exact wpAny_getItem_str_slice (l:=none) (u:=some (j,uj)) (st:=none) c rfl (post_val_or_str ⟨vW (Txt.slice_le z _ _) d,a _ _ q⟩)
 | int i ui=>
  cases e with
  | none=>exact wpAny_getItem_str_slice (l:=some (i,ui)) (u:=none) (st:=none) c rfl (post_val_or_str ⟨vW (Txt.slice_le z _ _) d,a _ _ q⟩)
  | int j uj=>exact wpAny_getItem_str_slice (l:=some (i,ui)) (u:=some (j,uj)) (st:=none) c rfl (post_val_or_str ⟨vW (Txt.slice_le z _ _) d,a _ _ q⟩)
def rd_str{R:Str->Prop}(h:R z):∃a,V.str z = .str a/\R a:=⟨z,rfl,h⟩
end
section
variable{X:Cx}{K:cG}
def Kn(e:X.K=K):rf X (nU K):=by subst e;exact jz
def Le(e:X.K=K):rf X (oV K):=by subst e;exact jv
def Gx(e:X.K=K):dE X (.builtin "len") (λxs H Q=>∃x n,xs=[x]/\sI K x H n/\Q (.int n) H):=by subst e;exact jY
def kN(e:X.K=K):gn X (compareOp .In) (Bv K false):=by subst e;exact wA
end
mutual
inductive DV(H:Hp):V->PyData->Prop
 | de:DV H .de .none
 | bl (b:Bool):DV H (.bl b) (.bool b)
 | int (i:Int):DV H (.int i) (.int i)
 | str (x:Str):DV H (.str x) (.str x)
 | lst {a:Addr} {xs:N2} {ds:List PyData}:H a=some (.lst xs)->fW H xs ds->DV H (.ref a) (.list ds)
 | tup {a:Addr} {xs:N2} {ds:List PyData}:H a=some (.tup xs)->fW H xs ds->DV H (.ref a) (.tuple ds)
inductive fW(H:Hp):N2->List PyData->Prop
 | nil:fW H [] []
 | cons {x:V} {d:PyData} {xs:N2} {ds:List PyData}:DV H x d->fW H xs ds->fW H (x::xs) (d::ds)
end
mutual
theorem DV.mono{H H':Hp}(k:cj H H'):∀{v:V} {d:PyData},DV H v d->DV H' v d
 | _,_,.de=>.de
 | _,_,.bl b=>.bl b
 | _,_,.int i=>.int i
 | _,_,.str x=>.str x
 | _,_,.lst e r=>.lst (k _ _ e) (fW.mono k r)
 | _,_,.tup e r=>.tup (k _ _ e) (fW.mono k r)
theorem fW.mono{H H':Hp}(k:cj H H'):∀{vs:N2} {ds:List PyData},fW H vs ds->fW H' vs ds
 | _,_,.nil=>.nil
 | _,_,.cons a r=>.cons (DV.mono k a) (fW.mono k r)
end
section
variable{X:Cx}
mutual
theorem Zp{p:St}{H:Hp}(I:Inv X pins p H s):∀{v:V} {d:PyData} {u:Value},DV H v d->RelV v u->∃as,Reads s.heap u d as
 | _,_,_,.de,r=>⟨_,by cases r;exact Reads.none⟩
 | _,_,_,.bl b,r=>⟨_,by cases r;exact Reads.bool b⟩
 | _,_,_,.int i,r=>by let⟨t,rfl⟩:=r;exact⟨_,Reads.int i t⟩
 | _,_,_,.str x,r=>by let⟨t,rfl⟩:=r;exact⟨_,Reads.str x t⟩
 | _,_,_,.lst e q,r=>by
  cases r;let⟨Z,a,c,g,k⟩:=I.cL _ _ e;let⟨as,f⟩:=we I q g;exact⟨_,reads_list_at k rfl rfl #v[f]⟩
 | _,_,_,.tup e q,r=>by
  cases r;let⟨a,g,m,Z⟩:=I.tuple (cJ.of e);let⟨o,l,h,n,j⟩:=m;let⟨as,f⟩:=we I q g;exact⟨_,reads_tuple_at l h j #v[f]⟩
theorem we{d:St}{H:Hp}(I:Inv X pins d H s):∀{vs:N2} {ds:List PyData} {us:L9},fW H vs ds->Vals vs us->∃as,ReadsAll s.heap us ds as
 | _,_,_,.nil,r=>by cases r;exact⟨_,ReadsAll.nil⟩
 | _,_,_,.cons a q,r=>by
  cases r with
  | cons r1 r2=>
   let⟨as,b⟩:=Zp I a r1;let⟨e,c⟩:=we I q r2;exact⟨_,ReadsAll.cons b c⟩
end
def A1(f:X.A.units+64<cLine):gn X (compareOp .Eq) (λx y H Q=>∃d e,DV H x d/\DV H y e/\SeqAt.shaped d=true/\SeqAt.shaped e=true/\Q (.bl (PyData.eqv d e)) H):=by
 intro a s p H x y v u Q I j k h;let⟨d,e,b,c,l,m,q⟩:=h;let⟨n,g⟩:=Zp I b j;let⟨o,i⟩:=Zp I c k;exact eq_dataH g i l m f ⟨.bl _,H,I,rfl,q⟩
def YG(f:X.A.units+64<cLine):gn X (compareOp .NotEq) (λx y H Q=>∃d e,DV H x d/\DV H y e/\SeqAt.shaped d=true/\SeqAt.shaped e=true/\Q (.bl (!PyData.eqv d e)) H):=by
 intro a s p H x y v u Q I j k h;let⟨d,e,b,c,l,m,q⟩:=h;let⟨n,g⟩:=Zp I b j;let⟨o,i⟩:=Zp I c k;exact ne_dataH g i l m f ⟨.bl _,H,I,rfl,q⟩
def Il{us:L9}:∀{a:L5},IntsAre us a->Vals (a.map V.int) us:=by
 induction us with
 | nil=>intro a r;cases r;exact .nil
 | cons u us ih=>
  intro a r;cases r with
  | cons n t r=>exact .cons ⟨t,rfl⟩ (ih r)
def Xl(w:X.calm=true):dE X (.builtin "max") (λxs H Q=>∃(p:Addr) (c:L5),xs=[.ref p]/\cm X.K H p (c.map V.int)/\0<⇑c/\∀m∈c,(∀a∈c,a<=m)->Q (.int m) H):=by
 intro n s L H xs K Q I r h;let⟨p,c,rfl,A,d,q⟩:=h;let⟨u,rfl,E⟩:=vals1 r;cases E;let⟨B,D,C,Z⟩:=I.list A;have k:=intsAre_of D;have l:=C.isList;let⟨xs,e⟩:=k.allInts.items;have b:c=xs.toList.map (·.1):=by rw[<-k.numsOf,<-nums_intItems,<-e]
 have f:0<xs.size:=by
  have g:=d;rw[b,vt,Array.length_toList]at g;exact g
 rw[e]at l;refine max_intList (I.ok.hd w) l f λv G F z y=>?_
 let⟨t,rfl⟩:=intItems_at z;let⟨J,o⟩:=argBest_gt (numAt xs) (xs.size-1);refine⟨.int _,H,I.kept (t':=F) y,⟨_,rfl⟩,q _ ?_ λa i=>?_⟩
 .rw[b,numAt_eq];exact getD_mem (by rw[vt,Array.length_toList];lia)
 .rw[b]at i;let⟨j,x,rfl⟩:=mem_getD i;rw[vt,Array.length_toList]at x;rw[<-numAt_eq];exact o j ⋯
end
section
variable{σ:St}{H:Hp}{Q:VK}
def rd_dget(h:td σ H λx H1=>ty σ H1 λy H2=>∃a v,x = .ref a/\dA H2 a y (some v)/\Q v H2):pO td ty σ H Q:=h
def Lm{a:List (TE×TE)}(h:∀p,H p=none->gA a σ (upd H p (.dK [])) λps H2=>H2 p=some (.dK [])/\∃kvs:List (Key×V),ps=kvs.map (λkv=>(kV kv.1,kv.2))/\⇑kvs<=15/\Q (.ref p) (upd H2 p (.dK (dN [] kvs)))):pP a σ H Q:=h
def rd_prN{R:List (V×V)->Hp->Prop}(h:R [] H):gA [] σ H R:=h
def rd_prC{a b:TE}{r:List (TE×TE)}{R:List (V×V)->Hp->Prop}(h:a σ H λx H1=>b σ H1 λy H2=>gA r σ H2 λps c=>R ((x,y)::ps) c):gA ((a,b)::r) σ H R:=h
end
def rn(K:cG)(a:Addr)(D:List (Str×PyProof.Rows.KTD.Dat)):Prop:=PyProof.Rows.KTD.tabLook (PyProof.Rows.KTD.datLooks λb=>K.lookup b) (λb=>K.lookup b) a D=true
section
variable{X:Cx}
def Mq:gn X (compareOp .In) (λx y H Q=>∃a k D,x = .str k/\y = .ref a/\rn X.K a D/\Q (.bl (PyProof.Rows.KTD.inKeys k D)) H):=by
 intro b s f H x y v u Q I c d h;let⟨a,k,D,rfl,rfl,T,q⟩:=h;let⟨t,rfl⟩:=c;cases d;exact PyProof.Rows.KTD.in_text (h₀:=s.heap) ⟨PySem.W.kt_text_in I.fH T,λj j e=>e⟩ ⟨.bl _,H,I.tok _,rfl,q⟩
end
def Yv{K:cG}{a:Addr}{xs:N2}{k:Nat}{ci:L6}{g:TG}{r:TT}{o:TE}{s:St}{H:Hp}{Z:Addr->N2->Hp->Prop}(d:Nat->N2->Hp->Prop)(t:d 0 [] H)(z:∀i ys H,i<=⇑xs->d i ys H->cJ K H a xs)
  (A:∀i x ys H,xs[i]?=some x->d i ys H->g x (dH k ci s) H λc H2=>r c H2 λb h=>if b=true then o c h λv l=>⇑ys<sizeLine/\d (i+1) (ys++[v]) l else d (i+1) ys h)
  (u:∀ys H,d ⇑xs ys H->⇑ys<=sizeLine/\∀p,H p=none->Z p ys H) :
  ∃W:Nat->Nat->N2->Hp->Prop,(∃m,W 0 m [] H)/\∀i m ys H,W i m ys H->
   ((oC K a).stop i H/\⇑ys<=sizeLine/\∀p,H p=none->Z p ys H)\/
   ((oC K a).go i H/\∃N:N2->Hp->Prop,(∀f H',N f H'->∃n,n<m/\W (i+1) n f H')/\∀x H',(oC K a).lT i H x H'->g x (dH k ci s) H' λc H2=>r c H2 λb h=>
    if b=true then o c h λv l=>⇑ys<sizeLine/\N (ys++[v]) l else N ys h):=by
 refine⟨λi m ys H=>m=⇑xs-i/\i<=⇑xs/\d i ys H,⟨⇑xs,by simp,va _,t⟩,?_⟩;rintro i m ys H ⟨rfl,w,p⟩;have q:=z i ys H w p;by_cases j:i<⇑xs
 .refine .inr ⟨⟨xs,xs[i],q,by simp[j]⟩,d (i+1),λf H' B=>⟨⇑xs-(i+1),⋯,rfl,j,B⟩,λx H' y=>?_⟩;let⟨e,y⟩:=y;subst e;exact A i x ys _ (y xs q) p
 .have e:i=⇑xs:=⋯
  subst e;exact .inl ⟨⟨xs,q,vb _⟩,u ys H p⟩
def rd_iTup{K:cG}{b:TE}{c:St}{H:Hp}{R:It->Hp->Prop}(h:b c H λx H1=>∃a,x = .ref a/\(∃xs,cJ K H1 a xs)/\R (oC K a) H1):sX K b c H R:=h
def qH{K:cG}{i j:Nat}{a:Addr}{x y:V}{b:St}{H:Hp}{R:St->Hp->Prop}(e:cJ K H a [x,y])(h:cC i x b H λS' H'=>cC j y S' H' R):mX K 2 (dX (cC i) (dX (cC j) mW)) (.ref a) b H R:=
 ⟨a,[x,y],rfl,e,rfl,x,[y],rfl,y,[],rfl,rfl,h⟩
def rd_sub{a:St}{H:Hp}{R:St->Hp->Prop}(h:to a H λo H1=>ti a H1 λi H2=>t o i v H2 λb=>R a b):sV to ti t v a H R:=h
def rd_dnew{a:St}{H:Hp}(h:∀p,H p=none->Q (.ref p) (upd H p (.dK []))):og a H Q:=h
def rd_dput{b:St}{H:Hp}(h:tv b H λv H1=>td b H1 λx H2=>ty b H2 λy d=>∃a c,x = .ref a/\gM d a y v c/\D.nx b c):pL td ty tv D b H:=h
def rd_bm0{K:cG}{T:String}{r:V->N2->Hp->VK->Prop}{a:TE}{b:St}{H:Hp}{Q:VK}(h:a b H λx H1=>uq K T x H1/\r x [] H1 Q):tT K T r a b H Q:=h
section
variable{X:Cx}{pins:Ny}{σ:St}{H:Hp}{s:Shared}{h':Heap}
def Inv.gL{t':Nat}{ch:L7}(I:Inv X pins σ H s)(f:∀b∈ch,gf X pins H b)(k:∀b o,b∉ch->s.heap.get? b=some o->h'.get? b=some o):Inv X pins σ H {s with heap:=h',toks:=t'}:=by
 have d:∀b u,H b=some u->b∉ch:=λb u e z=>by rw[(f b z).1]at e;cases e
 refine I.step (g':=s.gens) (d':=s.drawn) (ch:=ch) (λb t=>?_) (λb o Z Z a e Z=>k b o a e) (λb o Z Z a e Z=>⟨o.slots,k b o a e⟩) (λZ Z Z Z n=>n)
  (λb o a e=>⟨o,k b o a e⟩) (λZ Z e=>e) (λZ Z Z e=>e) (λb y e=>⟨#[],by rw[e];simp⟩) (λm w=>?_) (λb u e=>?_) I.bare
 .let⟨_,i,_,j,l,p⟩:=f b t;exact⟨j,i,l,p⟩
 .let⟨o,h,g,x,r⟩:=w;exact⟨o,h,g,k _ o (λz=>(f _ z).2.1 rfl) x,r⟩
 .refine(I.cL b u e).iQ (λc v a q=>k c v ?_ q) (λZ q=>q) λZ Z q=>q
  rcases a with z | z
  .rw[z];exact d b u e
  .exact d c _ z
def Inv.pair{t':Nat}{ch:L7}{x y:V}{u v:Value}(I:Inv X pins σ H s)(c:∀b∈ch,gf X pins H b)(h:∀b∈ch,b<s.heap.objs.size)(i:RelV x u)(j:RelV y v)
  (g:h'.get? s.heap.objs.size=some {cls:=.type "tuple",data:=.seq #[u,v]}) (k:∀b o,b∉ch->s.heap.get? b=some o->h'.get? b=some o) :
  Inv X pins σ (upd H s.heap.objs.size (.tup [x,y])) {s with heap:=h',toks:=t'}/\∀b∈ch,gf X pins (upd H s.heap.objs.size (.tup [x,y])) b:=by
 have f:∀b∈ch,gf X pins (upd H s.heap.objs.size (.tup [x,y])) b:=λb a=>⟨(jg (vE (h b a))).trans (c b a).1,(c b a).2⟩
 have d:Inv X pins σ (upd H s.heap.objs.size (.tup [x,y])) {s with heap:=s.heap.push {cls:=.type "tuple",data:=.seq #[u,v]},toks:=t'}:=
  I.laid (t':=t') (λb o e=>vJ _ e) (vb _) (show cD X.prog X.w _ _ _ (.tup [x,y])from⟨(by show 2<=sizeLine;decide),[u,v],.cons i (.cons j .nil),IsTup.new _ _⟩)
 refine⟨d.gL (h':=h') (t':=t') f λb o a e=>?_,f⟩;rcases Heap.get?_push_cases e with⟨rfl,rfl⟩ | e
 .exact g
 .exact k b o a e
end
def rX(K:cG)(a:Addr):It:=
 ⟨λi H=>∃xs x,cm K H a xs/\xs[i]?=some x,λi H x H'=>∃T v,x = .ref T/\H T=none/\H'=upd H T (.tup [.int i,v])/\∀xs,cm K H a xs->xs[i]?=some v,λi H=>∃xs,cm K H a xs/\⇑xs<=i⟩
def GQ{P:Program}{w:World}{K:cG}{n:Nt}{k:Nat}{O:Pos}(a e it:Addr)(t:e≠it) :
  Turn P w K (.Tuple n k O) (rX K a) [e,it] e (λi h=>(∃f,IsEnum h e it ((i:Nat):Int) f)/\h.IsListIter it a i) where
 mem:=by simp
 obj:=λi h j b g=>by
  rcases(by simpa using g:b=e\/b=it)with rfl | rfl
  .let⟨f,l⟩:=j.1;exact⟨_,l,λv z=>by cases z⟩
  .let⟨o,e,c,d⟩:=j.2
   simp_all
 keep:=λi h h' j k=>⟨let ⟨f,l⟩:=j.1;⟨f,k e (by simp) _ l⟩,j.2.at λo q=>k it (by simp) o q⟩
 item:=by
  intro X D L C S i A s σ H E I G j J;subst D L C;let⟨xs,x,B,M⟩:=J;let⟨N,Q,p,hz⟩:=I.list B;let⟨u,hu,ru⟩:=Q.get M;let⟨⟨f,l⟩,m⟩:=j;have le:e<s.heap.objs.size:=vI l;have li:it<s.heap.objs.size:=by let⟨o,q,_⟩:=id m;exact vI q
  refine wpAny_pyNext_enum_item l m p.isList (x:=u) #v[hu] t λh' ho r hT a0 hk=>?_
  let⟨U,R⟩:=I.pair (t':=s.toks+1) (ch:=[e,it]) (x:=.int i) (y:=x) G (λb g=>by rcases(by simpa using g:b=e\/b=it)with rfl | rfl<;>assumption) ⟨s.toks,rfl⟩ ru hT
   (λb o g q=>hk b o (λz=>g (by simp[z])) (λz=>g (by simp[z])) q)
  refine⟨_,rfl,wpAny_letOwnedTupleGo_enum ho λZ F T=>?_⟩;have W:=U.gL (h':=Z) (t':=s.toks+1) (ch:=[e,it]) R λb o g q=>(T.2 b λz=>g (by simp[z])).trans q
  exact⟨.ref s.heap.objs.size,_,W,rfl,⟨_,x,rfl,I.cL.fresh (vb _),rfl,λys hy=>by rw[I.fI hy B];exact M⟩,
   ⟨⟨u,#v[F]⟩,r.at λo q=>(T.2 it t.symm).trans q⟩,λb g=>(R b g).1⟩
 done:=by
  intro X D L C S i A s σ H E I G j J;subst D L C;let⟨xs,B,M⟩:=J;let⟨N,Q,p,hz⟩:=I.list B;let⟨⟨f,l⟩,m⟩:=j;have hl:=⇑Q;exact wpAny_pyNext_enum_end (I.ok.hd S) l m p.isList (by simp;lia) λh' Y=>⟨rfl,I.gL (t':=s.toks) (ch:=[e,it]) G λb o g q=>Y b o (λz=>g (by simp[z])) q⟩
 self:=λ_ _ _ _ _ j h=>let ⟨_,l⟩:=j.1;wpAny_pyIter_enum l h
def pA(K:cG)(ta:TA):TI:=λσ H R=>ta σ H λvs H1=>∃a xs,vs=[.ref a]/\cm K H1 a xs/\R (rX K a) H1
def Wn{X:Cx}{a:Expr}{n:TA}{f:Nt}{k:Nat}{p i j:Pos}(v:Gl X "enumerate")(x:X.mg "enumerate"= none)(r:PA X [a] n)(z:starEach [a] X.env=[(false,eval a X.env)]:=by rfl) :
  PI X (.Tuple f k j) (.Call (.Name "enumerate" p) [a] [] i) (pA X.K n):=by
 intro g s F H R I h;refine Call_ (Z2 I v x XZ (PyProof.Rows.callWith_type1 (cN (r i g s F H _ I h) λL e z_=>?_) z rfl));obtain⟨M,o,d,D,C⟩:=z_;let⟨b,N,rfl,y,q⟩:=C;let⟨u,rfl,E⟩:=vals1 D;cases E;let⟨B,K,p,J⟩:=d.list y;refine call_enumerate_list p.isList λG m l A w=>?_
 refine wpAny_pyIter_enum m ?_;refine⟨e.heap.objs.size+1,[e.heap.objs.size+1,e.heap.objs.size],_,_,o,rfl,d.kept (t':=e.toks) w,GQ b _ _ (Nat.succ_ne_self _),⟨⟨_,#v[m]⟩,l⟩,λc t=>?_,q⟩;rcases(by simpa using t:c=e.heap.objs.size+1\/c=e.heap.objs.size)with rfl | rfl
 .exact d.ie (Nat.le_succ _) (d.cL.fresh (Nat.le_succ _))
 .exact d.ie (vb _) (d.cL.fresh (vb _))
def Kk{K:cG}{a:Addr}{xs:N2}{g:TG}{l:TS}{D:Ends}{c:St}{H:Hp}(d:Nat->St->Hp->Prop)(n:d 0 c H)(u:∀i c H,i<=⇑xs->d i c H->cm K H a xs)
  (w:∀i v c H T H',xs[i]?=some v->d i c H->cj H H'->H' T=some (.tup [.int i,v])->g (.ref T) c H' λf H2=>l {D with nx:=d (i+1),ct:=d (i+1),bk:=D.nx} f H2) (s:∀c H,d ⇑xs c H->D.nx c H) :
  ∃W:Nat->Nat->St->Hp->Prop,(∃m,W 0 m c H)/\∀i m c H,W i m c H->
   ((rX K a).stop i H/\D.nx c H)\/((rX K a).go i H/\∃N:St->Hp->Prop,(∀S' H',N S' H'->∃k,k<m/\W (i+1) k S' H')/\∀x H',(rX K a).lT i H x H'->g x c H' λf H2=>l {D with nx:=N,ct:=N,bk:=D.nx} f H2):=by
 refine⟨λi m c H=>m=⇑xs-i/\i<=⇑xs/\d i c H,⟨⇑xs,by simp,va _,n⟩,?_⟩;rintro i m c H ⟨rfl,t,p⟩;have q:=u i c H t p;by_cases j:i<⇑xs
 .refine .inr ⟨⟨xs,xs[i],q,by simp[j]⟩,d (i+1),λS' H' z=>⟨⇑xs-(i+1),⋯,rfl,j,z⟩,λx H' y=>?_⟩;let⟨T,v,rfl,r,e,y⟩:=y;exact w i v c H T H' (y xs q) p (λb o h=>by rw[e,jg (je h r)];exact h) (by rw[e];exact jA)
 .have e:i=⇑xs:=⋯
  subst e;exact .inl ⟨⟨xs,q,vb _⟩,s c H p⟩
def rd_iEnum{K:cG}{b:TA}{c:St}{H:Hp}{R:It->Hp->Prop}(h:b c H λvs H1=>∃a xs,vs=[.ref a]/\cm K H1 a xs/\R (rX K a) H1):pA K b c H R:=h
def oD(K:cG)(a b:Addr):It:=
 ⟨λi H=>∃xs x ys y,cm K H a xs/\xs[i]?=some x/\cm K H b ys/\ys[i]?=some y,
  λi H x H'=>∃T u v,x = .ref T/\H T=none/\H'=upd H T (.tup [u,v])/\(∀xs,cm K H a xs->xs[i]?=some u)/\∀ys,cm K H b ys->ys[i]?=some v,
  λi H=>∃xs ys,cm K H a xs/\cm K H b ys/\(⇑xs<=i\/⇑ys<=i)⟩
def Qo{h:Heap}{a b:Addr}{o u:Obj}(c:h.get? a=some o)(d:h.get? b=some u)(f:o.cls≠u.cls):a≠b:=λe=>by
 lia
def K3{P:Program}{w:World}{K:cG}{T:Nt}{k:Nat}{aa:Pos}(t A z TI TO l m:Addr)
  (D:∀t A,t≠z->t≠TO->t≠l->t≠m->A≠z->A≠TO->A≠l->A≠m->ZipApart z TI TO l m t A) :
  Turn P w K (.Tuple T k aa) (oD K t A) [z,TI,TO,l,m] z (λi h=>IsZip h z TI TO .none/\IsPair h TI (.ref l) (.ref m)/\(∃a b,IsPair h TO a b)/\h.IsListIter l t i/\h.IsListIter m A i) where
 mem:=by simp
 obj:=λi h M b j=>by
  let⟨n,g,⟨a,c,f⟩,J,L⟩:=M;rcases(by simpa using j:b=z\/b=TI\/b=TO\/b=l\/b=m)with rfl | rfl | rfl | rfl | rfl
  .exact⟨_,n,λv z=>by cases z⟩
  .exact⟨_,g,λv z=>by cases z⟩
  .exact⟨_,f,λv z=>by cases z⟩
  .let⟨o,e,c,d⟩:=J
   simp_all
  .let⟨o,e,c,d⟩:=L
   simp_all
 keep:=λi h h' M k=>by
  let⟨n,g,⟨a,c,f⟩,J,L⟩:=M;exact⟨k z (by simp) _ n,k TI (by simp) _ g,⟨a,c,k TO (by simp) _ f⟩,J.at λo q=>k l (by simp) o q,L.at λo q=>k m (by simp) o q⟩
 item:=by
  intro X hP hw hK hc i W s σ H E I hf M hg;subst hP hw hK;let⟨xs,x,ys,y,hq,hx,hr,hy⟩:=hg;let⟨a8,rv,p,_⟩:=I.list hq;let⟨a9,N,U,_⟩:=I.list hr;let⟨u,hu,ru⟩:=rv.get hx;let⟨v,hv,ab⟩:=N.get hy;let⟨n,g,⟨a,c,f⟩,J,L⟩:=M;let⟨o1,n1,F,B,_⟩:=id p;let⟨o2,n2,G,C,_⟩:=id U;let⟨o3,O,R,_⟩:=id J;let⟨o4,Q,S,_⟩:=id L;have r:=D t A (Qo F n (by rw[B];show Value.type "list"≠Value.type "zip";decide)) (Qo F f (by rw[B];show Value.type "list"≠Value.type "tuple";decide)) (Qo F O (by rw[B,R];decide)) (Qo F Q (by rw[B,S];decide))
   (Qo G n (by rw[C];show Value.type "list"≠Value.type "zip";decide)) (Qo G f (by rw[C];show Value.type "list"≠Value.type "tuple";decide)) (Qo G O (by rw[C,R];decide)) (Qo G Q (by rw[C,S];decide))
  have lt:∀b∈[z,TI,TO,l,m],b<s.heap.objs.size:=λb j=>by
   rcases(by simpa using j:b=z\/b=TI\/b=TO\/b=l\/b=m)with rfl | rfl | rfl | rfl | rfl
   .exact vI n
   .exact vI g
   .exact vI f
   .exact vI O
   .exact vI Q
  refine wpAny_pyNext_zip_item r n g f J L p.isList U.isList (x:=u) (y:=v) #v[hu] #v[hv] λh' a1 a2 a3 a4 a5 a6 Z=>?_
  let⟨I1,f1⟩:=I.pair (t':=s.toks) (ch:=[z,TI,TO,l,m]) (x:=x) (y:=y) hf lt ru ab a5
   (λb o j q=>Z b o (λe=>j (by simp[e])) (λe=>j (by simp[e])) (λe=>j (by simp[e])) (λe=>j (by simp[e])) q)
  refine⟨_,rfl,wpAny_letOwnedTupleGo_zip a1 λh3 a7 Y=>?_⟩;have I2:=I1.gL (h':=h3) (t':=s.toks) (ch:=[z,TI,TO,l,m]) f1 λb o j q=>(Y.2 b λe=>j (by simp[e])).trans q
  exact⟨.ref s.heap.objs.size,_,I2,rfl,⟨_,x,y,rfl,I.cL.fresh (vb _),rfl,(λys hy=>by rw[I.fI hy hq];exact hx),λys a0=>by rw[I.fI a0 hr];exact hy⟩,
   ⟨a7,(Y.2 TI r.TIz).trans (Z TI _ r.TIz r.TITO r.TIi1 r.TIi2 g),⟨_,_,(Y.2 TO r.TOz).trans a2⟩,a3.at λo q=>(Y.2 l r.i1z).trans q,a4.at λo q=>(Y.2 m r.i2z).trans q⟩,λb j=>(f1 b j).1⟩
 done:=by
  intro X hP hw hK hc i W s σ H E I hf M hg;subst hP hw hK;let⟨xs,ys,hq,hr,hl⟩:=hg;let⟨a8,rv,p,_⟩:=I.list hq;let⟨a9,N,U,_⟩:=I.list hr;let⟨n,g,⟨a,c,f⟩,J,L⟩:=M;let⟨o1,n1,F,B,_⟩:=id p;let⟨o2,n2,G,C,_⟩:=id U;let⟨o3,O,R,_⟩:=id J;let⟨o4,Q,S,_⟩:=id L;have r:=D t A (Qo F n (by rw[B];show Value.type "list"≠Value.type "zip";decide)) (Qo F f (by rw[B];show Value.type "list"≠Value.type "tuple";decide)) (Qo F O (by rw[B,R];decide)) (Qo F Q (by rw[B,S];decide))
   (Qo G n (by rw[C];show Value.type "list"≠Value.type "zip";decide)) (Qo G f (by rw[C];show Value.type "list"≠Value.type "tuple";decide)) (Qo G O (by rw[C,R];decide)) (Qo G Q (by rw[C,S];decide))
  have ac:=⇑rv;have ad:=⇑N;refine wpAny_pyNext_zip_end (I.ok.hd hc) r n g f J L p.isList U.isList ?_ λh' Z=>⟨rfl,I.gL (t':=s.toks) (ch:=[z,TI,TO,l,m]) hf λb o j q=>Z b o (λe=>j (by simp[e])) (λe=>j (by simp[e])) (λe=>j (by simp[e])) (λe=>j (by simp[e])) q⟩
  simp_all
 self:=λ_ _ _ _ _ M h=>wpAny_pyIter_zip M.1 h
def Z3{n i j:Nat}(h:i≠j):n+i≠n+j:=λe=>h (Nat.add_left_cancel e)
def sY(K:cG)(ta:TA):TI:=λσ H R=>ta σ H λvs H1=>∃a b xs ys,vs=[.ref a,.ref b]/\cm K H1 a xs/\cm K H1 b ys/\R (oD K a b) H1
def AH{X:Cx}{a b:Expr}{w:TA}{f:Nt}{k:Nat}{p n o:Pos}(O:Gl X "zip")(Q:X.mg "zip"= none)(M:PA X [a,b] w)(U:starEach [a,b] X.env=[(false,eval a X.env),(false,eval b X.env)]:=by rfl)(l:starEach [b] X.env=[(false,eval b X.env)]:=by rfl) :
  PI X (.Tuple f k o) (.Call (.Name "zip" p) [a,b] [] n) (sY X.K w):=by
 intro m s σ H R I h;refine Call_ (Z2 I O Q Mp (PyProof.Rows.callWith_type1 (cN (M n m s σ H _ I h) λus d ⟨vs,x,e,r1,q1⟩=>?_) (by rw[U,l]) (by rw[l];rfl)));let⟨u,v,xs,ys,rfl,S,T,q⟩:=q1;cases r1 with
 | cons r rr=>
  cases rr with
  | cons r' rr=>
   cases rr;cases r;cases r';let⟨Y,rv,p,hz⟩:=e.list S;let⟨Z,a0,p',W⟩:=e.list T;refine call_zip_2 p.isList p'.isList λh' t y z A B a6 P=>?_
   refine wpAny_pyIter_zip t ?_;refine⟨d.heap.objs.size+4,[d.heap.objs.size+4,d.heap.objs.size+2,d.heap.objs.size+3,d.heap.objs.size,d.heap.objs.size+1],_,_,x,rfl,e.kept (t':=d.toks) P,
    K3 u v _ _ _ _ _ (λu v C D E F G J K L=>⟨Z3 nofun,Z3 nofun,Z3 (i:=0) nofun,Z3 nofun,Z3 nofun,Z3 (j:=0) nofun,Z3 nofun,Z3 (j:=0) nofun,Z3 nofun,Z3 (i:=0) nofun,C,D,E,F,G,J,K,L⟩),⟨t,y,⟨_,_,z⟩,A,B⟩,λc N=>?_,q⟩
   have g:d.heap.objs.size<=c:=by
    rcases(by simpa using N:c=d.heap.objs.size+4\/c=d.heap.objs.size+2\/c=d.heap.objs.size+3\/c=d.heap.objs.size\/c=d.heap.objs.size+1)with rfl | rfl | rfl | rfl | rfl<;>lia
   exact e.ie g (e.cL.fresh g)
def IQ{K:cG}{a b:Addr}{xs ys:N2}{g:TG}{r:TS}{D:Ends}{c:St}{H:Hp}(d:Nat->St->Hp->Prop)(l:⇑xs=⇑ys)(s:d 0 c H)(A:∀i c H,i<=⇑xs->d i c H->cm K H a xs/\cm K H b ys)
  (B:∀i u v c H T H',xs[i]?=some u->ys[i]?=some v->d i c H->cj H H'->H' T=some (.tup [u,v])->g (.ref T) c H' λf H2=>r {D with nx:=d (i+1),ct:=d (i+1),bk:=D.nx} f H2) (w:∀c H,d ⇑xs c H->D.nx c H) :
  ∃W:Nat->Nat->St->Hp->Prop,(∃m,W 0 m c H)/\∀i m c H,W i m c H->
   ((oD K a b).stop i H/\D.nx c H)\/((oD K a b).go i H/\∃N:St->Hp->Prop,(∀S' H',N S' H'->∃n,n<m/\W (i+1) n S' H')/\∀x H',(oD K a b).lT i H x H'->g x c H' λf H2=>r {D with nx:=N,ct:=N,bk:=D.nx} f H2):=by
 refine⟨λi m c H=>m=⇑xs-i/\i<=⇑xs/\d i c H,⟨⇑xs,by simp,va _,s⟩,?_⟩;rintro i m c H ⟨rfl,z,p⟩;let⟨q,k⟩:=A i c H z p;by_cases j:i<⇑xs
 .refine .inr ⟨⟨xs,xs[i],ys,ys[i],q,by simp[j],k,by simp⟩,d (i+1),λS' H' C=>⟨⇑xs-(i+1),⋯,rfl,j,C⟩,λx H' y=>?_⟩;let⟨T,u,v,rfl,t,e,y,E⟩:=y;exact B i u v c H T H' (y xs q) (E ys k) p (λb o h=>by rw[e,jg (je h t)];exact h) (by rw[e];exact jA)
 .have e:i=⇑xs:=⋯
  subst e;exact .inl ⟨⟨xs,ys,q,k,.inl (vb _)⟩,w c H p⟩
def rd_iZip{K:cG}{c:TA}{d:St}{H:Hp}{R:It->Hp->Prop}(h:c d H λvs H1=>∃a b xs ys,vs=[.ref a,.ref b]/\cm K H1 a xs/\cm K H1 b ys/\R (oD K a b) H1):sY K c d H R:=h
def Xq:entryFor table "dict.update.loop"= some Builtin.«dict.update.loop»:=entryFor_of_tree (by kernel_rfl)
def Y8:plainId "dict.update.loop"= true:=by decide +kernel
def G4:typeLookup (.type "list") "keys"= pure none:=by rw[typeLookup_type,builtinLookup_eq_fast];kernel_rfl
section
variable{prog:Program}{w:World}{A:Around}{E:Nz}{s:Shared}
def rF{Q:Option Value->Shared->Prop}(p:s.heap.get? a=some o)(m:o.cls = .type "list")(f:o.data = .seq xs k)(n:o.dict=none)(t:A.handled=none)
  (h:∀h' tk,(∀b o,s.heap.get? b=some o->h'.get? b=some o)->Q none {s with heap:=h',toks:=tk}):wpAny (model prog w) A (getAttr? (.ref a) "keys") Q E s:=by
 let⟨c,r,q,x⟩:=o;simp only at m f n;subst m f n;let⟨u,g,d,tk,v⟩:=s;have l:∀j,(⟨u,g,d,j,v⟩:Shared).TypeIs (.ref a) "list":=λZ=>⟨_,p,rfl⟩
 have y:=sub_AttributeError;have z:=F.slot_list_getattribute.lookup;have B:=F.slot_list_getattribute.bind (.ref a);have C:=am_list_getattr_none;unfold getAttr? getAttrBy? getAttrBy
 repeat (any_goals (first | assumption | exact l _ | ((with_reducible show wpAny _ _ (call (Value.builtin "list.__getattribute__") _ _) _ _ _);refine call_meets F.slot_list_getattribute (l _) am_entry_list_getattribute (F.args_list_getattribute_2 _ _) (meets_getattribute_miss_list a xs k x "keys" _ G4 (by decide +kernel) (by decide +kernel)) ⟨p,t,λh' j e i=>?_⟩) | wp_step))
 let⟨G,H,D⟩:=i.there;show wpAny _ _ (getattributeRaised _ _ _ _ _ _ _) _ _ _;unfold getattributeRaised
 repeat (any_goals (first | assumption | wp_step))
 exact h _ _ i.keeps
variable{K:Type}[DecidableEq K]{knd:KeyKind prog w K}
noncomputable def sU(acc:List (K×Value))(ps:List (K×Value)):List (K×Value):=ps.foldl (λacc kv=>stored acc kv.1 kv.2) acc
def FT(a:List (K×Value))(k:K)(v:Value):⇑(stored a k v)<=⇑a+1:=by
 unfold stored;split
 .rw[vt];exact Nat.le_succ _
 .rw[vn];exact vb _
theorem BN{R:Result->Shared->Prop}{d it l:Addr}{items:L9}{res:Value}(N:A.handled=none)(h:d≠it)(q:d≠l)(r:it≠l) :
  ∀(ps:List (K×Value)) (i:Nat) (c:List (K×Value)) (s:Shared),s.heap.IsListIter it l i->s.heap.IsList l items.toArray->(⇑items=i+⇑ps)->
   (∀j kv,ps[j]?=some kv->∃a key,items[i+j]?=↥a/\IsTup s.heap a #[key,kv.2]/\knd.is kv.1 key=true/\a≠d/\a≠it)->s.heap.DictOf knd d c->⇑c+⇑ps<=sizeLine->
   (∀h' tk,(∀b o,b≠d->b≠it->s.heap.get? b=some o->h'.get? b=some o)->h'.DictOf knd d (sU c ps)->R (.ok (.ret res)) {s with heap:=h',toks:=tk})->
   codeAny (model prog w) A (.builtin "dict.update.loop" ⟨[.ref d,.ref it,rawInt i,res],[]⟩) R s
 | [],i,c,s,hit,hl,hn,hp,hd,hz,hR=>by
  refine codeAny_builtin Xq ?_;rw[Around.under_plainId Y8 _];show wpAny _ A.in1 (pyNext (.ref it) >>= _) _ _ s;refine ud (wpAny_pyNext_list_end (A:=A.in1) N hit hl (by simp;simp at hn;lia) λh' M=>?_);show wpAny _ A.in1 (Builtin.Dict.addKeywords d [] >>= _) _ _ _;refine ud (uc (uc (hR h' s.toks (λb o _ C e=>M b o C e) ?_)));exact hd.extBut M h
 | kv::ps,i,c,s,hit,hl,hn,hp,hd,hz,hR=>by
  let⟨a,key,W,ht,Z,X,B⟩:=hp 0 kv rfl;refine codeAny_builtin Xq ?_;rw[Around.under_plainId Y8 _];show wpAny _ A.in1 (pyNext (.ref it) >>= _) _ _ s;refine ud (wpAny_pyNext_list_item (A:=A.in1) hit hl (x:=.ref a) #v[W] λy t L=>?_);let⟨ot,Q,oc,n,od⟩:=ht;have p:y.get? a=some ot:=(L.2 a B).trans Q;show wpAny _ A.in1 (holding [Value.ref a] _ >>= _) _ _ _;refine ud (wpAny_holding ?_);refine ud (wpAny_tryCatch ?_);unfold Builtin.Dict.pairItems;refine ud (wpAny_typeOf (T:="tuple") ⟨_,p,oc⟩ ?_);show wpAny _ A.in1 (if((Value.type "tuple"== Value.type "list")||(Value.type "tuple"== Value.type "tuple"))=true then _ else _) _ _ _;rw[vd nofun];refine ud (wpAny_seqItems p od ?_);refine uc ?_;show wpAny _ A.in1 (holding [key,kv.2] (dictSet d key kv.2)) _ _ _;have D:y.DictOf knd d c:=hd.extBut (λb o C e=>(L.2 b C).trans e) h;refine wpAny_holding (wpAny_dictSet_pairs (s:={s with heap:=y}) Z D (λS E v=>?_) (by simp at hz;lia));show wpAny _ A.in1 (again _) _ _ _;refine uc ⟨plainId_quiet Y8 _,?_⟩;have I:∀b o,b≠d->b≠it->s.heap.get? b=some o->S.get? b=some o:=λb o f g e=>(v.2 b f).trans ((L.2 b g).trans e)
  have sl:=FT c kv.1 kv.2;refine BN N h q r ps (i+1) (stored c kv.1 kv.2) _ (t.at λo e=>(v.2 it h.symm).trans e) (hl.at λo e=>I l o q.symm r.symm e) (by simp at hn;lia) (λj J Y=>?_) E (by simp at hz;lia) λU tk k3 F=>?_
  .let⟨O,u,z,H,G,k,m⟩:=hp (j+1) J #v[Y];let⟨o',P,r'⟩:=H;exact⟨O,u,by rw[<-z];congr 1;lia,⟨o',I _ _ k m P,r'⟩,G,k,m⟩
  .exact hR U tk (λb o f g e=>k3 b o f g (I b o f g e)) F
end
open PySem PySem.W PyProof.Rows
section
variable{n:Nat}{key:Nat->Int}{p:Array Nat}
noncomputable def Tw(n:Nat)(key:Nat->Int){α:Type}:KasT α->(α->Prop)->Prop
 | .ret a,Q=>Q a
 | .ask i j k,Q=>i<n/\j<n/\Tw n key (k (decide (key i<key j))) Q
theorem Tw.bind{b c:Type}{f:b->KasT c}{Q:c->Prop}:∀{t:KasT b},Tw n key t (λa=>Tw n key (f a) Q)->Tw n key (t.bind f) Q
 | .ret _,h=>h
 | .ask _ _ _,h=>⟨h.1,h.2.1,Tw.bind h.2.2⟩
theorem Tw.mono{d:Type}{Q b:d->Prop}(c:∀a,Q a->b a):∀{t:KasT d},Tw n key t Q->Tw n key t b
 | .ret _,h=>c _ h
 | .ask _ _ _,h=>⟨h.1,h.2.1,Tw.mono c h.2.2⟩
theorem Tw.run{d:Type}{b:Nat->Nat->(Bool->Shared->Prop)->Shared->Prop}{Q:d->Shared->Prop}(c:∀i j C,i<n->j<n->C (decide (key i<key j)) s->b i j C s) :
  ∀{t:KasT d},Tw n key t (λa=>Q a s)->t.kasWp b Q s
 | .ret _,h=>h
 | .ask i j k,h=>c i j _ h.1 h.2.1 (Tw.run c h.2.2)
def Tw.asks{a:Type}{k:Bool->KasT a}{Q:a->Prop}(hi:i<n)(e:j<n)(b:key i<key j->Tw n key (k true) Q)(d:¬key i<key j->Tw n key (k false) Q):Tw n key (.ask i j k) Q:=by
 refine⟨hi,e,?_⟩;by_cases c:key i<key j
 .rw[vG c];exact b c
 .rw[vH c];exact d c
def Pk(n:Nat)(p:Array Nat):Prop:=p.toList.Perm (List.range n)
noncomputable def kv(key:Nat->Int)(p:Array Nat)(i:Nat):Int:=key (p∘i)
def Up(key:Nat->Int)(p:Array Nat)(k:Nat):Prop:=∀i j,i<=j->j<k->kv key p i<=kv key p j
def Dn(key:Nat->Int)(p:Array Nat)(k:Nat):Prop:=∀i j,i<=j->j<k->kv key p j<=kv key p i
def u6(key:Nat->Int)(p:Array Nat)(m q:Nat):Prop:=∀k,m-(q+1)<=k->k<m->kv key p k=kv key p (m-1)
def Pk.size(h:Pk n p):p.size=n:=by have:=h.length_eq;simpa using this
def Pk.lt(h:Pk n p)(a:0<n)(i:Nat):p∘i<n:=by
 rw[Array.getD_eq_getD_getElem?];cases e:p[i]? with
 | none=>exact a
 | some x=>exact v7.mp (h.mem_iff.mp (Array.mem_toList_iff.mpr (Array.mem_of_getElem? e)))
def Pk.of(h:Pk n p)(a:q.Perm p):Pk n q:=(Array.perm_iff_toList_perm.mp a).trans h
def tj(h:a[i]?=b[j]?):kv key a i=kv key b j:=by
 unfold kv;rw[Array.getD_eq_getD_getElem?,Array.getD_eq_getD_getElem?,h]
def AY(a:j<=p.size)(k:Nat):kv key (kas_rev p i j) k=if i<=k/\k<j then kv key p (i+j-1-k)else kv key p k:=by
 have h:=getElem?_mirror_all (xs:=p) (i:=i) a k;split
 .rename_i c;rw[vd c]at h;exact tj h
 .rename_i c;rw[vc c]at h;exact tj h
def Nd(b:src<p.size)(a:d<=src)(k:Nat):kv key (bubble p src d) k=if k=src-d then kv key p src else if src-d<k/\k<=src then kv key p (k-1)else kv key p k:=by
 have h:=getElem?_bubble (xs:=p) b d a k;split
 .rename_i c;rw[vd c]at h;exact tj h
 .rename_i c;rw[vc c]at h;split
  .rename_i c';rw[vd c']at h;exact tj h
  .rename_i c';rw[vc c']at h;exact tj h
def Up.snoc(h:Up key p m)(d:1<=m)(f:¬kv key p m<kv key p (m-1)):Up key p (m+1):=λi j a g=>by
 by_cases e:j<m
 .exact h i j a e
 .have c:j=m:=⋯
  subst c;by_cases b:i=j
  .rw[b];exact vA _
  .have:=h i (j-1) ⋯ ⋯;lia
def Dn.snoc(h:Dn key p m)(d:1<=m)(f:kv key p m<=kv key p (m-1)):Dn key p (m+1):=λi j a g=>by
 by_cases e:j<m
 .exact h i j a e
 .have c:j=m:=⋯
  subst c;by_cases b:i=j
  .rw[b];exact vA _
  .have:=h i (j-1) ⋯ ⋯;lia
theorem Bj(a:Pk n p):∀f m,1<=m->m+f<=n->Up key p m->Tw n key (kas_asc p f m) λr=>m<=r/\r<=m+f/\Up key p r/\(r<m+f->kv key p r<kv key p (r-1))
 | 0,m,h1,hn,hu=>⟨vb _,vb _,hu,λh=>ub h (Nat.lt_irrefl _)⟩
 | f+1,m,h1,hn,hu=>by
  refine Tw.asks (a.lt ⋯ _) (a.lt ⋯ _) (λc=>?_) (λc=>?_)<;>simp only[Bool.false_eq_true,if_true,if_false]
  .exact⟨vb _,⋯,hu,λj=>c⟩
  .exact Tw.mono (λr h=>⟨⋯,⋯,h.2.2.1,λb=>h.2.2.2 ⋯⟩) (Bj a f (m+1) ⋯ ⋯ (hu.snoc h1 c))
def Dx(b:m<=p.size)(a:u6 key p m q)(k:Nat):kv key (kas_rev p (m-(q+1)) m) k=kv key p k:=by
 rw[AY b];split
 .rename_i c;rw[a k c.1 c.2,a _ ⋯ ⋯]
 .rfl
theorem uM:∀f (p:Array Nat) m q,Pk n p->1<=m->m+f<=n->q+1<=m->Dn key p m->u6 key p m q->
  Tw n key (kas_desc f p m q) λr=>Pk n r.1/\m<=r.2.1/\r.2.1<=m+f/\Dn key r.1 r.2.1/\r.2.2+1<=r.2.1/\u6 key r.1 r.2.1 r.2.2
 | 0,p,m,q,hp,h1,hn,hq,hd,he=>⟨hp,vb _,vb _,hd,hq,he⟩
 | f+1,p,m,q,hp,h1,hn,hq,hd,he=>by
  have t:=hp.size;refine Tw.asks (hp.lt ⋯ _) (hp.lt ⋯ _) (λc=>?_) (λc=>?_)<;>simp only[Bool.false_eq_true,if_true,if_false]
  .have c:kv key p m<kv key p (m-1):=c;split
   .have g:=Dx (key:=key) (p:=p) (m:=m) (q:=q) ⋯ he;have d:Pk n (kas_rev p (m-(q+1)) m):=hp.of (mirror_perm _ _ _ _);refine Tw.mono (λr h=>⟨h.1,⋯,⋯,h.2.2.2⟩) (uM f _ (m+1) 0 d ⋯ ⋯ ⋯ (λi j b s=>?_) λk l o=>?_)
    .rw[g,g];exact hd.snoc h1 ⋯ i j b s
    .rw[show k=m+1-1 by lia]
   .refine Tw.mono (λr h=>⟨h.1,⋯,⋯,h.2.2.2⟩) (uM f p (m+1) 0 hp ⋯ ⋯ ⋯ (hd.snoc h1 ⋯) λk l o=>?_);rw[show k=m+1-1 by lia]
  .have c:¬kv key p m<kv key p (m-1):=c;refine Tw.asks (hp.lt ⋯ _) (hp.lt ⋯ _) (λa=>?_) (λa=>?_)<;>simp only[Bool.false_eq_true,if_true,if_false]
   .exact⟨hp,vb _,Nat.le_add_right m (f+1),hd,hq,he⟩
   .have a:¬kv key p (m-1)<kv key p m:=a;refine Tw.mono (λr h=>⟨h.1,⋯,⋯,h.2.2.2⟩) (uM f p (m+1) (q+1) hp ⋯ ⋯ ⋯ (hd.snoc h1 ⋯) λk l o=>?_);rw[Nat.add_sub_cancel];by_cases e:k=m
    .rw[e]
    .rw[he k ⋯ ⋯];lia
def Ez(c:Pk n p)(d:1<=m)(k:m<=n)(e:Dn key p m):Tw n key (kas_tail3 m n p) λr=>Pk n r.2/\1<=r.1/\r.1<=n/\Up key r.2 r.1:=by
 have l:=c.size;have a:Pk n (kas_rev p 0 m):=c.of (mirror_perm _ _ _ _);have b:=AY (key:=key) (p:=p) (i:=0) (j:=m) ⋯;refine Tw.bind (Tw.mono (λr h=>?_) (Bj a (n-m) m d ⋯ λi j f g=>?_))
 .exact⟨a,⋯,⋯,h.2.2.1⟩
 .rw[b,b,vd ⟨va _,⋯⟩,vd ⟨va _,g⟩];exact e _ _ ⋯ ⋯
def Ey(t:Pk n p)(u:m+1<=n)(o:Dn key p (m+1)):Tw n key (kas_descPart m n p) λr=>Pk n r.2/\1<=r.1/\r.1<=n/\Up key r.2 r.1:=by
 refine Tw.bind (Tw.mono (λr h=>?_) (uM (n-(m+1)) p (m+1) 0 t ⋯ ⋯ ⋯ o λk v w=>by rw[show k=m+1-1 by lia]));let⟨a,b,c,d,e,g⟩:=h;have x:=a.size;split
 .have l:=Dx (key:=key) (p:=r.1) (m:=r.2.1) (q:=r.2.2) ⋯ g;exact Ez (a.of (mirror_perm _ _ _ _)) ⋯ ⋯ λi j f s=>by rw[l,l];exact d i j f s
 .exact Ez a ⋯ ⋯ d
def LC(g:Pk n p)(t:1<=n):Tw n key (kas_count n p) λr=>Pk n r.2/\1<=r.1/\r.1<=n/\Up key r.2 r.1:=by
 have y:=g.size;refine Tw.bind (Tw.mono (λr h=>?_) (Bj (key:=key) g (n-1) 1 ⋯ ⋯ λi j l m=>by rw[show i=j by lia];exact vA _));let⟨a,b,c,d⟩:=h;split
 .exact⟨g,a,⋯,c⟩
 rename_i hne;have w:r<n:=by
  have:r≠n:=λe=>hne (by rw[e];simp)
  lia
 have d:=d ⋯;split
 .refine Tw.asks (g.lt ⋯ _) (g.lt ⋯ _) (λq=>?_) (λq=>?_)<;>simp only[Bool.false_eq_true,if_true,if_false]
  .exact⟨g,a,⋯,c⟩
  .have q:¬kv key p 0<kv key p (r-1):=q;have v:=AY (key:=key) (p:=p) (i:=0) (j:=r) ⋯;have f:∀i,i<r->kv key p i=kv key p (r-1):=λi u=>by
    have t:=c 0 i (va _) u;have x:=c i (r-1) ⋯ ⋯;lia
   have k:∀i,kv key (kas_rev p 0 r) i=kv key p i:=λi=>by
    rw[v];split
    .rename_i q';rw[f _ q'.2,f _ ⋯]
    .rfl
   refine Ey (g.of (mirror_perm _ _ _ _)) ⋯ λi j l m=>?_
   rw[k,k];by_cases e:j=r
   .by_cases o:i=r
    .rw[e,o];exact vA _
    .rw[e,f i ⋯];lia
   .rw[f i ⋯,f j ⋯];exact vA _
 .have s:r=1:=⋯
  subst s;refine Ey g ⋯ λi j l m=>?_
  rcases(by lia:(i=0/\j=0)\/(i=0/\j=1)\/(i=1/\j=1))with⟨rfl,rfl⟩ | ⟨rfl,rfl⟩ | ⟨rfl,rfl⟩
  .exact vA _
  .have:kv key p 1<kv key p (1-1):=d;exact Int.le_of_lt this
  .exact vA _
theorem Aj(e:Pk n p)(c:k<n)(g:Up key p k):∀f l r,l<=r->r<=k->r-l<=f->(∀i,i<l->kv key p i<=kv key p k)->(∀i,r<=i->i<k->kv key p k<kv key p i)->
  Tw n key (kas_place p k f l r) λm=>m<=k/\(∀i,i<m->kv key p i<=kv key p k)/\∀i,m<=i->i<k->kv key p k<kv key p i
 | 0,l,r,h1,h2,h3,a,b=>⟨⋯,a,λi d=>b i ⋯⟩
 | f+1,l,r,h1,h2,h3,a,b=>by
  unfold kas_place;split
  .exact⟨⋯,a,λi d=>b i ⋯⟩
  refine Tw.asks (e.lt ⋯ _) (e.lt ⋯ _) (λq=>?_) (λq=>?_)<;>simp only[Bool.false_eq_true,if_true,if_false]
  .have q:kv key p k<kv key p ((l+r)/2):=q;exact Aj e c g f l _ ⋯ ⋯ ⋯ a λi d h=>by
    have:=g ((l+r)/2) i d h;lia
  .have q:¬kv key p k<kv key p ((l+r)/2):=q;exact Aj e c g f _ r ⋯ h2 ⋯ (λi d=>by
    have:=g i ((l+r)/2) ⋯ ⋯;lia) b
theorem EK:∀f (p:Array Nat) k,Pk n p->k+f<=n->Up key p k->Tw n key (kas_bin f p k) λq=>Pk n q/\Up key q (k+f)
 | 0,p,k,hp,hn,hu=>⟨hp,hu⟩
 | f+1,p,k,hp,hn,hu=>by
  have t:=hp.size;refine Tw.bind (Tw.mono (λl h=>?_) (Aj hp ⋯ hu k 0 k (va _) (vb _) ⋯ (λi o=>ub o (Nat.not_lt_zero _)) λi e m=>ub e ⋯));let⟨a,b,c⟩:=h;have g:=Nd (key:=key) (p:=p) (src:=k) (d:=k-l) ⋯ ⋯;refine Tw.mono (λq h=>⟨h.1,by rw[show k+(f+1)=k+1+f by lia];exact h.2⟩) (EK f _ (k+1) (hp.of (bubble_perm _ _ _)) ⋯ λi j r s=>?_);rw[g,g,show k-(k-l)=l by lia]
  repeat' split
  all_goals first
   | exact vA _
   | (exfalso;lia)
   | exact Int.le_of_lt (c _ ⋯ ⋯)
   | exact b _ ⋯
   | exact hu _ _ ⋯ ⋯
   | (have e:=b i ⋯;have m:=c (j-1) ⋯ ⋯;lia)
def MJ(f:1<=n):Tw n key (kas_sort n) λq=>Pk n q/\Up key q n:=by
 have g:Pk n (List.toArray (List.range n)):=List.Perm.refl _;refine Tw.bind (Tw.mono (λr h=>?_) (LC (key:=key) g f));let⟨a,b,c,d⟩:=h;split
 .refine Tw.mono (λq h=>⟨h.1,?_⟩) (EK (n-max r.1 1) r.2 (max r.1 1) a ⋯ (by rw[show max r.1 1=r.1 by lia];exact d));have e:max r.1 1+(n-max r.1 1)=n:=⋯
  rw[e]at h;exact h.2
 .have e:r.1=n:=⋯
  exact⟨a,by rw[<-e];exact d⟩
end
section
variable{prog:Program}{w:World}{A:Around}{E:Nz}{s:Shared}
def lL(h:Heap)(as:L7)(key:Nat->Int):Prop:=∀i a,as[i]?=some a->∃o t u n,h.get? a=some o/\o.cls = .type "tuple"/\o.data = .seq #[.int (key i) t,u] n
def lL.keep{key:Nat->Int}(x:lL h as key)(k:∀a∈as,∀o,h.get? a=some o->h'.get? a=some o):lL h' as key:=λi a e=>by
 let⟨o,t,u,n,q,r⟩:=x i a e;exact⟨o,t,u,n,k a (vm e) _ q,r⟩
def ND{key:Nat->Int}(x:lL s.heap as key)(b:∀i j,i<⇑as->j<⇑as->key i=key j->i=j){C:Bool->Shared->Prop}(hi:i<⇑as)(a:j<⇑as)
  (h:C (decide (key i<key j)) s):kas_ask prog w A (tuples' true) (as.map Value.ref) i j C s:=by
 unfold kas_ask;let⟨o,t,u,n,d,z,k⟩:=x i _ (vz hi);let⟨v,y,g,D,f,B,l⟩:=x j _ (vz a);have m:(as.map Value.ref).getD i Value.none = .ref as[i]:=by rw[vy,vv,vz hi];rfl
 have p:(as.map Value.ref).getD j Value.none = .ref as[j]:=by rw[vy,vv,vz a];rfl
 rw[m,p];refine kat_lt d k f l ?_;show KatLex prog w A true _ C [(.int (key i) t,.int (key j) y),(u,g)] 0 s;refine kat_cons (wpAny_eqBool_int ?_);by_cases c:key i=key j
 .have r:=b i j hi a c;subst r;rw[beq_self_eq_true];have q:u=g:=by
   have e:o=v:=vL (d.symm.trans f)
   lia
  subst q;refine kat_yes (kat_cons (SeqAt.EqAt.same _ _ _ _ _ ?_));refine kat_yes (kat_nil ?_);rw[vH (Int.lt_irrefl _)]at h;exact h
 .rw[beq_false_of_ne c];exact kat_no (oneLt_int h)
theorem DM{key:Nat->Int}:∀{as:L7} (_:lL h as key),∃fs,KatTups h (as.map Value.ref) fs/\⇑fs=⇑as/\∀v∈fs,∃n t,v=Value.int n t
 | [],_=>⟨[],KatTups.nil,rfl,λv g=>nomatch g⟩
 | a::r,x=>by
  let⟨o,t,u,n,q,c,d⟩:=x 0 a rfl;let⟨fs,k,l,f⟩:=DM (key:=λi=>key (i+1)) (as:=r) λi b e=>x (i+1) b #v[e]
  refine⟨.int (key 0) t::fs,KatTups.cons q c d rfl k,by rw[vQ,l,vQ],λv g=>?_⟩;rcases mem_cons.mp g with rfl | g
  .exact⟨_,_,rfl⟩
  .exact f v g
def LH(vs:L9):(vs.toArray.zip vs.toArray).map (·.2)=vs.toArray:=by
 apply Array.toList_inj.mp;rw[Array.toList_map,Array.toList_zip];exact List.map_snd_zip (vb _)
def Hl(vs:L9):(List.range ⇑vs).map (λi=>vs.getD i Value.none)=vs:=by
 refine ext_getElem (by simp) λi b a=>?_
 rw[getElem_map,getElem_range,vy,vz a];rfl
def Ii:∀{l:L5},⇑l<2->l.Pairwise (·<=·)
 | [],_=>.nil
 | [_],_=>pairwise_singleton _ _
 | _::_::_,h=>ub h (by rw[vQ,vQ];lia)
def I9{key:Nat->Int}{P:PySem.Fin->Shared->Prop}(d:s.heap.get? a=some (seqObj "list" (as.map Value.ref).toArray c0))(S:a∉as)(x:lL s.heap as key)
  (U:∀i j,i<⇑as->j<⇑as->key i=key j->i=j) (O:⇑as<64)
  (D:∀(q:L6) (h':Heap) (c:Nat),q.Perm (List.range ⇑as)->(q.map key).Pairwise (·<=·)->(∀b o,b≠a->s.heap.get? b=some o->h'.get? b=some o)->
   h'.get? a=some (seqObj "list" ((q.map λi=>as∘i).map Value.ref).toArray c)->P (.done (.ret .none)) {s with heap:=h'}) :
  wpAny (model prog w) A (Builtin.«list.sort» ⟨[.ref a],[]⟩) P E s:=by
 have a5:a<s.heap.objs.size:=vI d;obtain⟨u,k⟩:∃u,(s.heap.update a (Obj.mapSeq λ_=>(#[]:Array Value))).get? a=some (seqObj "list" #[] u):=⟨_,get?_update_seq d λ_=>#[]⟩
 have X:=Heap.SameBut.update s.heap a (Obj.mapSeq λ_=>(#[]:Array Value));rw[list_sort_plain];refine ud (listItems_at (s:=s) d rfl ?_);refine ud (listUpdate_at (s:=s) d rfl ?_ (by rw[size_toArray,vt,sizeLine_eq];lia) (va _));refine ud (seqEpoch_at (n:=u) k rfl ?_);refine ud (wpAny_newTuple ?_ (by show(as.map Value.ref).length<=_;rw[vt,sizeLine_eq];lia));refine ud (wpAny_newList ?_ (va (sizeLine)));refine wpAny_holding ?_;generalize Y:((s.heap.update a (Obj.mapSeq λ_=>(#[]:Array Value))).push (seqObj "tuple" (as.map Value.ref).toArray 0)).push (seqObj "list" #[] 0)=hX;have kX:∀b o,b≠a->s.heap.get? b=some o->hX.get? b=some o:=λb o y e=>by
  rw[<-Y];exact vJ _ (vJ _ ((X.2 b y).trans e))
 have F:hX.get? a=some (seqObj "list" #[] u):=by
  rw[<-Y];exact vJ _ (vJ _ k)
 have xX:lL hX as key:=x.keep λb y o e=>kX b o (λz=>S (z▸y)) e
 show wpAny (model prog w) A _ P E {s with heap:=hX};dsimp only;have K:(as.map Value.ref).toArray.size=⇑as:=by rw[size_toArray,vt]
 have H:∀q:L6,q.Perm (List.range ⇑as)->(List.map (λi=>(as.map Value.ref).getD i Value.none) q)=(q.map λi=>as∘i).map Value.ref:=λq M=>by
  rw[uz];refine map_congr_left λi B=>?_
  have hl:i<⇑as:=v7.mp (M.mem_iff.mp B);show(as.map Value.ref).getD i Value.none=Value.ref (as∘i);rw[vy,vy,vv,vz hl];rfl
 have g:∀(q:L6),q.Perm (List.range ⇑as)->(q.map key).Pairwise (·<=·)->∀r:Array Value,r=(List.map (λi=>(as.map Value.ref).getD i Value.none) q).toArray->
   P (.done (.ret .none)) {s with heap:=hX.update a (Obj.mapSeq λ_=>r)}:=λq M hs r ho=>by
  subst ho;have o2:=get?_update_seq F λ_=>(List.map (λi=>(as.map Value.ref).getD i Value.none) q).toArray
  have J:=Heap.SameBut.update hX a (Obj.mapSeq λ_=>(List.map (λi=>(as.map Value.ref).getD i Value.none) q).toArray);rw[H q M]at o2 J|-;exact D q _ _ M hs (λb o y e=>(J.2 b y).trans (kX b o y e)) o2
 by_cases l:(as.map Value.ref).toArray.size<2
 .rw[vd l,vd l];refine ud (uc ?_);rw[StateT.run_pure];refine ud (uc ?_);dsimp only;refine ud (seqEpoch_at (n:=u) F rfl ?_);have eo:(arrOf (SortSt.mk' general' ((as.map Value.ref).toArray.zip (as.map Value.ref).toArray) #[] 7 none)).map (·.2)=(List.map (λi=>(as.map Value.ref).getD i Value.none) (List.range ⇑as)).toArray:=by
   have e:=Hl (as.map Value.ref);rw[vt]at e;rw[e];exact LH _
  rw[eo];refine ud (listUpdate_at (s:={s with heap:=hX}) F rfl ?_ (va _) (by rw[size_toArray,vt,length_range,sizeLine_eq];lia));simp only[bne_self_eq_false,Bool.false_eq_true,if_false];refine uc (g (List.range ⇑as) (List.Perm.refl _) ?_ _ rfl);rw[K]at l;exact Ii (by rw[vt,length_range];exact l)
 .rw[vc l,vc l];rw[K]at l;let⟨fs,kt,kl,ki⟩:=DM xX;have a0:hX=({s with heap:=hX}:Shared).heap:=rfl;refine ud (kat_kind (s:={s with heap:=hX}) (T:=Value.type "int") kt ⋯ (λv hv=>?_) nofun ?_)
  .let⟨m,t,rfl⟩:=ki v hv;exact Looks.of_pure rfl
  refine ud (wpAny_mono (kat_run (s:={s with heap:=hX}) (ks:=as.map Value.ref) (vs:=as.map Value.ref) (κ:=tuples' true) (Q:=λf I=>∃p:Array Nat,Pk ⇑as p/\Up key p ⇑as/\arrOf f=p.map (kas_item ((as.map Value.ref).toArray.zip (as.map Value.ref).toArray))/\failedOf f=none/\I={s with heap:=hX}) (G:=λp I=>Pk ⇑as p/\Up key p ⇑as/\I={s with heap:=hX})
   rfl (by rw[vt];lia) (by rw[vt];exact O) (λp f I _ a2 a3 N=>⟨p,N.1,N.2.1,a2,a3,N.2.2⟩) ?_) ?_ λ_ _ e=>e)
  .rw[vt];exact Tw.run (n:=⇑as) (key:=key) (λi j C B L hC=>ND xX U B L hC) (Tw.mono (λq h=>⟨h.1,h.2,rfl⟩) (MJ (key:=key) ⋯))
  rintro⟨⟨⟩,f⟩ I ⟨p,Z,hu,R,hf,rfl⟩;dsimp only;rw[kat_snds rfl R];refine ud (seqEpoch_at (n:=u) F rfl ?_);have W:=Z.size;refine ud (listUpdate_at (s:={s with heap:=hX}) F rfl ?_ (va _) (by rw[size_toArray,vt,Array.length_toList,W,sizeLine_eq];lia));rw[hf];simp only[bne_self_eq_false,Bool.false_eq_true,if_false];refine uc (g p.toList Z ?_ _ rfl);refine pairwise_map.mpr (pairwise_iff_getElem.mpr λi j B L a1=>?_);rw[Array.length_toList]at B L;have:=hu i j ⋯ ⋯;unfold kv at this;rw[Array.getD_eq_getD_getElem?,Array.getD_eq_getD_getElem?,Array.getElem?_eq_getElem B,Array.getElem?_eq_getElem L]at this;exact this
end
open PySem PySem.Spec PySem.W PyProof.Rows
section
variable{X:Cx}{pins:Ny}{σ:St}{H:Hp}{s:Shared}
def nE(X:Cx)(pins:Ny)(T:Addr):Prop:=X.s₀.heap.objs.size<=T/\T≠X.env.locals/\(∀x c,X.env.cells.lookup x=some c->c≠T)/\∀p∈X.pn++pins,p.1≠T
def Inv.Bn(I:Inv X pins σ H s)(a:s.heap.objs.size<=T):nE X pins T:=by
 let⟨j,b,j,j,c,d⟩:=I.ie (H':=λj=>none) a rfl;exact⟨vW I.sz a,b,c,d⟩
def cD.obj(x:cD P w H h a o):∃u,h.get? a=some u:=by
 cases o with
 | lst xs=>let⟨j,j,j,j,e⟩:=x;exact⟨_,e⟩
 | tup xs=>let⟨j,j,j,u,e,j⟩:=x;exact⟨u,e⟩
 | dK kvs=>let⟨j,j,j,j,u,j,j,e,j⟩:=x;exact⟨u,e⟩
 | dT kvs=>let⟨j,j,j,j,u,j,j,e,j⟩:=x;exact⟨u,e⟩
 | set S n=>let⟨u,j,j,j,e,j⟩:=x;exact⟨u,e⟩
 | ins C dx fs=>let⟨j,j,j,e,j⟩:=x;exact⟨_,e⟩
 | own y=>exact x
 | xd fs=>let⟨j,⟨u,j,j,e,j⟩,j⟩:=x;exact⟨u,e⟩
 | tM lo hi=>let⟨j,j,j,e⟩:=x;exact⟨_,e⟩
 | lZ u v=>exact⟨_,x.1⟩
 | oX ps=>exact⟨_,x⟩
 | met f y=>exact⟨_,x⟩
 | ext φ=>exact x.2.1
def Inv.mI{a:Heap}(I:Inv X pins σ H s)(c:∀b o,s.heap.get? b=some o->a.get? b=some o):H a.objs.size=none:=by
 cases e:H a.objs.size with
 | none=>rfl
 | some u=>
  let⟨v,q⟩:=(I.cL _ _ e).obj;exact ub (vI (c _ _ q)) (Nat.lt_irrefl _)
def Inv.tG{a:Heap}(I:Inv X pins σ H s)(h:∀b o,s.heap.get? b=some o->a.get? b=some o):nE X pins a.objs.size:=by
 have f:∀b o,s.heap.get? b=some o->b<a.objs.size:=λb o e=>vI (h b o e)
 let⟨m,⟨o,j,j,d,j⟩,j⟩:=I.loc;have g:=f _ _ d;refine⟨vY (vD I.ok.above g),Nat.ne_of_gt g,λx c e=>?_,λp i=>vE (f _ _ (I.pin p i).1)⟩;let⟨v,o,d,j⟩:=I.cell x c e;exact vE (f _ _ d)
def Inv.pW(I:Inv X pins σ H s)(h:H T=none)(d:nE X pins T)(g:cD X.prog X.w (upd H T o) s.heap T o):Inv X pins σ (upd H T o) s:=by
 have a:∀b u,H b=some u->b≠T:=λb u e z=>by rw[z,h]at e;cases e
 refine I.step (h':=s.heap) (H':=upd H T o) (g':=s.gens) (d':=s.drawn) (t':=s.toks) (ch:=[T]) (λb f=>?_) (λb o Z Z Z e Z=>e) (λb o Z Z Z e Z=>⟨o.slots,e⟩) (λb u f Z n=>?_) (λb u Z e=>⟨u,e⟩)
  (λb k e=>(jg (a _ _ e)).trans e) (λb u v e=>(jg (a _ _ e)).trans e) (λb j e=>⟨#[],by rw[jg (a _ _ e),e];simp⟩) (λm i=>i) (λb u e=>?_) I.bare
 .have e:b=T:=by simpa using f
  subst e;exact⟨.inr d.1,d.2.1,d.2.2.1,d.2.2.2⟩
 .exact(jg λz=>f (by simp[z])).trans n
 .by_cases z:b=T
  .subst z;rw[jA]at e;cases e;exact g
  .rw[jg z]at e;exact(I.cL b u e).iQ (λc v Z q=>q) (λc q=>(jg (a _ _ q)).trans q) λc l q=>(jg (a _ _ q)).trans q
theorem Inv.lS:∀(e:List (Addr×HO)) {H:Hp},Inv X pins σ H s->(∀p∈e,H p.1=none/\nE X pins p.1/\∀H',cD X.prog X.w H' s.heap p.1 p.2)->(e.map (·.1)).Nodup->∃H',Inv X pins σ H' s/\cj H H'/\∀p∈e,H' p.1=some p.2
 | [],H,I,_,_=>⟨H,I,cj.refl _,λp d=>nomatch d⟩
 | w::r,H,I,h,nd=>by
  let⟨a,b,c⟩:=h w vq;rw[uw,ug]at nd;have g:=I.pW a b (c _);let⟨H',i,f,m⟩:=Inv.lS r g (λp d=>by
   let⟨j,k,l⟩:=h p (vp _ d);exact⟨(jg λz:p.1=w.1=>nd.1 (by rw[<-z];exact vK.mpr ⟨p,d,rfl⟩)).trans j,k,l⟩) nd.2
  have n:cj H (upd H w.1 w.2):=λb u q=>(jg (je q a)).trans q
  refine⟨H',i,n.trans f,λp d=>?_⟩;rcases mem_cons.mp d with rfl | d
  .exact f _ _ jA
  .exact m p d
end
section
variable{X:Cx}
theorem pX:∀as:L7,Vals (as.map V.ref) (as.map Value.ref)
 | []=>.nil
 | _::r=>.cons rfl (pX r)
def KV.get{κ:Type}:∀{kvs:List (κ×V)} {vs:List (κ×Value)} {i:Nat} {p:κ×V},KV kvs vs->kvs[i]?=some p->∃q,vs[i]?=some q/\p.1=q.1/\RelV p.2 q.2:=by
 intro kvs vs i p h e
 induction h generalizing i with
 | nil=>simp at e
 | cons r t ih=>cases i with
  | zero=>simp at e;subst e;exact⟨_,rfl,r⟩
  | succ i=>exact ih #v[e]
def G7:sJ X "dict.update" (λx vs H Q=>∃d o kvs more,x = .ref d/\vs=[.ref o]/\H d=some (.dK kvs)/\H o=some (.dK more)/\d≠o/\⇑kvs+⇑more<=sizeLine/\Q .de (upd H d (.dK (dN kvs more)))):=by
 intro l s G H x vs v D Q I B A h;let⟨d,o,kvs,more,rfl,rfl,k,p,g,y,q⟩:=h;cases B;let⟨u,rfl,z⟩:=vals1 A;cases z;let⟨E,e,i,m,b⟩:=WN I.cL k;let⟨F,f,j,n,c⟩:=WN I.cL p;refine call_meetsIn PySem.F.slot_dict_update b.typeIs PySem.F.entry_dict_update (PySem.F.args_dict_update_2 _ _) (meets_dict_update (cw X.prog X.w) d o g f) ⟨i,j,b,c,by rw[<-⇑m,<-⇑n];exact y,λr a Z w=>?_⟩;have t:∃q,r.get? d=some q:=let ⟨q,_,_,hq,_⟩:=a;⟨q,hq⟩;have C:=zt more kvs;exact⟨.de,_,Y1 (t':=s.toks) I (by rw[k];exact True.intro) w t (X8 ⋯ e (n.merge m) a),rfl,q⟩
noncomputable def mE(v d:Addr):HO:=.ext λh=>h.get? v=some {cls:=.type "dict_items",data:=.fields #[.ref d]}
def Ic:sJ X "dict.items" (λx vs H Q=>∃d kvs,x = .ref d/\vs=[]/\H d=some (.dK kvs)/\∀v,H v=none->Q (.ref v) (upd H v (mE v d))):=by
 intro i s y H x vs v t Q I m l h;let⟨d,kvs,rfl,rfl,j,q⟩:=h;cases m;have f:=l.zero;subst f;let⟨w,c,g,r,a⟩:=WN I.cL j;refine call_meetsIn PySem.F.slot_dict_items a.typeIs PySem.F.entry_dict_items (PySem.F.args_dict_items_1 (.ref d)) (meets_dict_items (cw X.prog X.w) d c) ⟨⟨g,a⟩,?_⟩;have e:(s.heap.push {cls:=.type "dict_items",data:=.fields #[.ref d]}).get? s.heap.objs.size=some {cls:=.type "dict_items",data:=.fields #[.ref d]}:=Heap.get?_push_size _ rfl;exact⟨.ref s.heap.objs.size,_,I.laid (t':=s.toks) (o:=mE s.heap.objs.size d) (λb u q=>vJ _ q) (vb _) (show cD X.prog X.w _ _ _ (mE s.heap.objs.size d)from⟨e,⟨_,e⟩,λn p q k=>k _ q⟩),rfl,q _ (I.cL.fresh (vb _))⟩
noncomputable def i6(p:Int×Int):Key×V:=(Sum.inl p.1,.int p.2)
def X2(hc:X.calm=true):dE X (.builtin "sorted") (λxs H Q=>∃(v d:Addr) (kvs:Np),xs=[.ref v]/\H v=some (mE v d)/\H d=some (.dK (kvs.map i6))/\⇑kvs<64/\
  ∀(l:Addr) (as:L7) (ms:Np) (H':Hp),cj H H'->H l=none->H' l=some (.lst (as.map V.ref))->(∀a∈as,H a=none)->ms.Perm kvs->(ms.map (·.1)).Pairwise (·<=·)->⇑as=⇑ms->(∀(i:Nat) (a:Addr) (p:Int×Int),as[i]?=some a->ms[i]?=some p->H' a=some (.tup [.int p.1,.int p.2]))->Q (.ref l) H'):=by
 intro y s σ H xs us Q I r h;let⟨v,d,kvs,rfl,ev,ed,Z,q⟩:=h;let⟨u,rfl,ru⟩:=vals1 r;cases ru;let⟨z1,a4,N,r1,G⟩:=WN I.cL ed;have hv:s.heap.get? v=some {cls:=.type "dict_items",data:=.fields #[.ref d]}:=(I.cL v _ ev).1;let⟨ep,da⟩:=G.dictAt;have lv:=⇑r1;rw[vt]at lv;have nd:(kvs.map (·.1)).Nodup:=by
  have R:(N.map (·.1)).Nodup:=let ⟨_,_,_,_,_,_,_,_,hn⟩:=G;hn;rw[<-r1.keys,uz]at R;refine pairwise_map.mpr ((pairwise_map.mp R).imp λ{a b} h e=>h ?_);show(Sum.inl a.1:Key)=Sum.inl b.1;rw[e]
 refine Calls.call_function_entry kind_sorted plain_sorted entry_sorted (args_sorted1 (.ref v)) ?_;unfold Builtin.«sorted»;refine ud (m:=checkCount "sorted" 1 1 1) (uc ?_);refine ud (kdx_collect (knd:=cw X.prog X.w) (kvs:=N) (ep:=ep) (A:=X.A.in1) (I.ok.hd hc) ⟨_,hv,rfl,rfl⟩ da (by rw[<-lv,sizeLine_eq];lia) λg tk as P C J=>?_);rw[<-lv]at C;refine ud (wpAny_newList ?_ (by rw[vt,C,sizeLine_eq];lia));have K:(g.push (seqObj "list" (as.map Value.ref).toArray 0)).get? g.objs.size=some (seqObj "list" (as.map Value.ref).toArray 0):=Heap.get?_push_size _ rfl;have D:g.objs.size∉as:=λz=>Nat.lt_irrefl _ (J.there z)
 have E:∀i p,kvs[i]?=some p->(λi=>(kvs.getD i (0,0)).1) i=p.1/\(λi=>(kvs.getD i (0,0)).2) i=p.2:=λi p e=>by
  dsimp only;rw[vy,e];exact⟨rfl,rfl⟩
 have xQ:∀i a,as[i]?=some a->∃t u,(g.push (seqObj "list" (as.map Value.ref).toArray 0)).get? a=some {cls:=.type "tuple",data:=.seq #[.int ((λi=>(kvs.getD i (0,0)).1) i) t,.int ((λi=>(kvs.getD i (0,0)).2) i) u]}:=λi a e=>by
  let⟨ky,k,x,O,w,e3⟩:=J.pairs i a e;have f:i<⇑kvs:=by rw[<-C];exact(vx.mp e).1
  let⟨w',e4,a3⟩:=KV.get r1 (i:=i) (p:=i6 kvs[i]) (by rw[vv,vz f];rfl);rw[O]at e4;cases e4;let⟨ek,S,ex⟩:=a3;have T:k=Sum.inl kvs[i].1:=ek.symm;subst T;have U:x = .int kvs[i].2 S:=ex;subst U;let⟨W,Y⟩:=E i _ (vz f);rw[show(λi=>(kvs.getD i (0,0)).1) i=kvs[i].1 from W,show(λi=>(kvs.getD i (0,0)).2) i=kvs[i].2 from Y];rcases Jo (show gG (Sum.inl kvs[i].1) ky=true from w)with⟨n,t,q1,q2⟩ | ⟨n,t,q1,q2⟩
  .cases q1;subst q2;exact⟨t,S,vJ _ e3⟩
  .cases q1
 have xP:lL (g.push (seqObj "list" (as.map Value.ref).toArray 0)) as (λi=>(kvs.getD i (0,0)).1):=λi a e=>by
  let⟨t,u,z⟩:=xQ i a e;exact⟨_,t,_,_,z,rfl,rfl⟩
 have a0:∀i j,i<⇑as->j<⇑as->(λi=>(kvs.getD i (0,0)).1) i=(λi=>(kvs.getD i (0,0)).1) j->i=j:=λi j f B e=>by
  rw[C]at f B;let⟨W,_⟩:=E i _ (vz f);let⟨Y,_⟩:=E j _ (vz B);rw[W,Y]at e;rcases Nat.lt_trichotomy i j with z | z | z
  .exact ub e (by have:=pairwise_iff_getElem.mp nd i j (by rw[vt];exact f) (by rw[vt];exact B) z;simpa using this)
  .exact z
  .exact ub e.symm (by have:=pairwise_iff_getElem.mp nd j i (by rw[vt];exact B) (by rw[vt];exact f) z;simpa using this)
 refine ud (wpAny_holding (wpAny_call_entry slot_list_sort ⟨_,K,rfl⟩ entry_list_sort (I9 (s:={s with heap:=g.push (seqObj "list" (as.map Value.ref).toArray 0),toks:=tk}) K D xP a0 (by rw[C];exact Z) λM F c hq hs kk o2=>⟨_,rfl,?_⟩) (args_list_sort _)));refine uc ⟨_,rfl,?_⟩;have a1:∀b o,s.heap.get? b=some o->b<g.objs.size:=λb o e=>vI (P b o e)
 have k2:∀b o,s.heap.get? b=some o->F.get? b=some o:=λb o e=>kk b o (vE (a1 b o e)) (vJ _ (P b o e))
 have I2:Inv X y σ H {s with heap:=F,toks:=tk}:=I.kept (t':=tk) k2;have hB:H g.objs.size=none:=I.mI P;have nB:=I.tG P;have ha:∀a∈as,H a=none/\nE X y a:=λa h=>⟨I.cL.fresh (vY (J.above a h)),I.Bn (vY (J.above a h))⟩
 have L:∀i∈M,i<⇑as:=λi f=>v7.mp (hq.mem_iff.mp f)
 have a2:(((g.objs.size,HO.lst ((M.map λi=>as∘i).map V.ref))::(List.range ⇑as).map λi=>(as∘i,HO.tup [.int (kvs.getD i (0,0)).1,.int (kvs.getD i (0,0)).2])).map (·.1)).Nodup:=by
  rw[uw,ug,uz];have w:(List.range ⇑as).map (Function.comp (λx=>x.1) λi=>(as∘i,HO.tup [.int (kvs.getD i (0,0)).1,.int (kvs.getD i (0,0)).2]))=as:=ext_getElem (by simp) λi g F=>by
   rw[getElem_map,getElem_range];show as∘i=_;rw[vy,vz F];rfl
  rw[w];exact⟨D,J.rise.imp λh=>vE h⟩
 let⟨H',I3,s3,k3⟩:=I2.lS ((g.objs.size,HO.lst ((M.map λi=>as∘i).map V.ref))::(List.range ⇑as).map λi=>(as∘i,HO.tup [.int (kvs.getD i (0,0)).1,.int (kvs.getD i (0,0)).2])) (λp hp=>by
  rcases mem_cons.mp hp with rfl | hp
  .refine⟨hB,nB,λH'=>⟨?_,_,c,pX _,o2⟩⟩;rw[vt,vt,hq.length_eq,length_range,C,sizeLine_eq];lia
  .let⟨i,f,rfl⟩:=vK.mp hp;have f:=v7.mp f;have e:as[i]?=some (as∘i):=by rw[vy,vz f];rfl
   let⟨t1,S,eo⟩:=xQ i _ e;have hm:=vm e;let⟨R,n2⟩:=ha _ hm;exact⟨R,n2,λH'=>⟨(by show 2<=sizeLine;decide),[_,_],.cons ⟨t1,rfl⟩ (.cons ⟨S,rfl⟩ .nil),⟨_,kk _ _ (λz=>D (z▸hm)) eo,rfl,_,rfl⟩⟩⟩) a2
 .refine⟨.ref g.objs.size,H',I3,rfl,q g.objs.size (M.map λi=>as∘i) (M.map λi=>kvs.getD i (0,0)) H' s3 hB (k3 _ vq) (λa h=>?_) ?_ ?_ (by rw[vt,vt]) λi a p O w=>?_⟩
  .let⟨i,f,rfl⟩:=vK.mp h;have e:as[i]?=some (as∘i):=by rw[vy,vz (L i f)];rfl
   exact(ha _ (vm e)).1
  .have e:=hq.map λi=>kvs.getD i (0,0)
   rw[C]at e;have w:(List.range ⇑kvs).map (λi=>kvs.getD i (0,0))=kvs:=ext_getElem (by simp) λi g F=>by
    rw[getElem_map,getElem_range,vy,vz F];rfl
   rw[w]at e;exact e
  .rw[uz];exact hs
  .rw[vv]at O w;let⟨j,B,rfl⟩:=vg.mp O;rw[B]at w;cases w;exact k3 _ (vp _ (vK.mpr ⟨j,v7.mpr (L j (vm B)),rfl⟩))
end
theorem wJ:∀{as:L7} {us:L9},Vals (as.map V.ref) us->us=as.map Value.ref
 | [],_,r=>by cases r;rfl
 | a::as,_,r=>by
  cases r with
  | cons r1 r2=>rw[wJ r2,show _=Value.ref a from r1];rfl
theorem CB:∀{as:L7} {kvs:Np},⇑as=⇑kvs->(∀(i:Nat) (a:Addr) (q:Int×Int),as[i]?=some a->kvs[i]?=some q->∃t u,IsTup h a #[.int q.1 t,.int q.2 u])->
  ∃ps:List (Key×Value),KV (kvs.map i6) ps/\⇑ps=⇑kvs/\∀(j:Nat) (kv:Key×Value),ps[j]?=some kv->∃a key,as[j]?=some a/\IsTup h a #[key,kv.2]/\gG kv.1 key=true
 | [],[],_,_=>⟨[],.nil,rfl,λj kv e=>by simp at e⟩
 | [],_::_,l,_=>by simp at l
 | _::_,[],l,_=>by simp at l
 | a::as,q::kvs,l,f=>by
  let⟨ps,o,p,r⟩:=CB (as:=as) (kvs:=kvs) #v[l] λi a q m n=>f (i+1) a q #v[m] #v[n]
  let⟨t,u,e⟩:=f 0 a q rfl rfl;refine⟨(Sum.inl q.1,.int q.2 u)::ps,.cons ⟨rfl,u,rfl⟩ o,by rw[vQ,p,vQ],λj kv c=>?_⟩;cases j with
  | zero=>simp at c;subst c;exact⟨a,_,rfl,e,Xv _ _⟩
  | succ j=>let⟨b,s,d,g,k⟩:=r j kv #v[c];exact⟨b,s,#v[d],g,k⟩
section
variable{X:Cx}
def FL(G:X.calm=true):dE X (.type "dict") (λxs H Q=>∃(p:Addr) (as:L7) (kvs:Np),xs=[.ref p]/\H p=some (.lst (as.map V.ref))/\⇑as=⇑kvs/\
  (∀(i:Nat) (a:Addr) (q:Int×Int),as[i]?=some a->kvs[i]?=some q->H a=some (.tup [.int q.1,.int q.2]))/\∀d,H d=none->Q (.ref d) (upd H d (.dK (dN [] (kvs.map i6))))):=by
 intro M s σ H xs us Q I r h;let⟨p,as,kvs,rfl,Z,B,ht,q⟩:=h;let⟨u,rfl,ru⟩:=vals1 r;cases ru;let⟨z,D,n,rv,lv,e⟩:=I.lR Z;have W:=wJ rv;subst W;rw[vt]at z;have J:p<s.heap.objs.size:=vI e;let⟨ps,kp,N,pt⟩:=CB (h:=s.heap) B λi a q S U=>by
  let⟨_,D,r',t'⟩:=I.cL a _ (ht i a q S U);cases r' with
  | cons ra rr=>
   cases rr with
   | cons rb rr=>
    cases rr;let⟨t1,rfl⟩:=ra;let⟨t2,rfl⟩:=rb;exact⟨t1,t2,t'⟩
 refine callType_codes (Q₁:=λt g=>t = .ref s.heap.objs.size/\g={s with heap:=s.heap.push {cls:=.type "dict",data:=.dict #[]}}) PySem.F.kt_called_dict (PySem.F.kt_typeCall_dict_1 (.ref p)) PySem.F.entry_dict_init (kt_code_dict_new (.ref p) ⟨rfl,rfl⟩) ?_;rintro t g ⟨rfl,rfl⟩;have c:(s.heap.push {cls:=.type "dict",data:=.dict #[]}).DictOf (cw X.prog X.w) s.heap.objs.size []:=Heap.DictOf.new s.heap;have v:∀b o,s.heap.get? b=some o->(s.heap.push {cls:=.type "dict",data:=.dict #[]}).get? b=some o:=λb o e=>vJ _ e
 generalize s.heap.push {cls:=.type "dict",data:=.dict #[]}=h0 at c v;refine⟨c.typeIs (s:={s with heap:=h0}),PySem.F.args_dict_init_2 _ _,?_⟩;unfold Builtin.«dict.__init__»;refine ud ?_;unfold Builtin.Dict.selfAndRest;refine ud (wpAny_notOrdered_dict (c.typeIs (s:={s with heap:=h0})) ?_);show wpAny (model X.prog X.w) _ (pure (s.heap.objs.size,[Value.ref p])) _ _ _;refine uc ?_;show wpAny (model X.prog X.w) _ (Builtin.Dict.updateFrom "dict.__init__" s.heap.objs.size (.ref p) [] .none) _ _ _;unfold Builtin.Dict.updateFrom;refine ud (wpAny_typeOf (T:="list") ⟨_,v _ _ e,rfl⟩ ?_);rw[vd nofun];refine ud (rF (s:={s with heap:=h0}) (v _ _ e) rfl rfl rfl (I.ok.hd G) λm tk K=>?_);rw[vd (show(none:Nv).isNone=true from rfl)];have f:∀b o,s.heap.get? b=some o->m.get? b=some o:=λb o e=>K b o (v b o e)
 have k:m.DictOf (cw X.prog X.w) s.heap.objs.size []:=c.keep K;have w:s.heap.objs.size<m.objs.size:=by let⟨_,_,_,hg,_⟩:=k;exact vI hg
 have lp:p<m.objs.size:=Nat.lt_trans J w;refine ud (wpAny_rule ?_);refine ud (wpAny_pyIter_list (l:=p) (items:=(as.map Value.ref).toArray) ⟨_,f _ _ e,rfl,n,rfl⟩ ?_);refine uc ⟨plainId_quiet Y8 _,?_⟩;refine BN (knd:=cw X.prog X.w) (A:=X.A.in1) (d:=s.heap.objs.size) (it:=m.objs.size) (l:=p) (items:=as.map Value.ref) (res:=.none) (I.ok.hd G) (vE w) (Nat.ne_of_gt J) (Nat.ne_of_gt lp) ps 0 [] _
  ⟨_,Heap.get?_push_size _ rfl,rfl,rfl⟩ ⟨_,vJ _ (f _ _ e),rfl,n,rfl⟩ (by rw[vt,B,N,Nat.zero_add]) (λj kv Y=>?_) (k.push _) (by rw[length_nil,N,<-B,Nat.zero_add];exact z) λh2 E k2 x=>?_
 .let⟨a,ky,O,⟨o,F,P⟩,R⟩:=pt j kv Y;have L:a<s.heap.objs.size:=vI F;exact⟨a,ky,by rw[Nat.zero_add,vv,O];rfl,⟨o,vJ _ (f _ _ F),P⟩,R,vE L,vE (Nat.lt_trans L w)⟩
 .refine⟨rfl,.ref s.heap.objs.size,upd H s.heap.objs.size (.dK (dN [] (kvs.map i6))),I.laid (t':=E) (λb o y=>k2 b o (vE (vI y)) (vE (Nat.lt_trans (vI y) w)) (vJ _ (f _ _ y))) (vb _) ?_,rfl,q _ (I.cL.fresh (vb _))⟩;have hm:=zt (kvs.map i6) [];rw[length_nil,vt]at hm;have C:(s.heap.objs.size==sysModules)=false:=by
   rw[beq_eq_false_iff_ne];exact Nat.ne_of_gt I.big
  exact X8 ⋯ C (kp.merge .nil) x
end
theorem Y2{H:Hp}:∀(ks:L5),fW H (ks.map V.int) (ks.map PyData.int)
 | []=>.nil
 | k::r=>.cons (.int k) (Y2 r)
def IL(ks:L5):PyData.eqv (.list (ks.map PyData.int)) (.list [])=decide (ks=[]):=by
 cases ks<;>simp[PyData.eqv,PyData.eqvAll]
def Nj(R:X.A.units+64<cLine):gn X (compareOp .In) (λx y H Q=>∃(a l:Addr) (as:L7) (hs:L1),x = .ref a/\y = .ref l/\H a=some (.lst [])/\H l=some (.lst (as.map V.ref))/\⇑as=⇑hs/\
  (∀(i:Nat) (b:Addr) (ks:L5),as[i]?=some b->hs[i]?=some ks->H b=some (.lst (ks.map V.int)))/\Q (.bl (hs.any λks=>decide (ks=[]))) H):=by
 intro n s T H x y v u Q I K L h;let⟨a,l,as,hs,rfl,rfl,p,A,P,C,q⟩:=h;cases K;cases L;let⟨E,r,F,S⟩:=I.list (cm.of A);have t:=wJ r;subst t;let⟨M,G⟩:=Zp I (DV.lst p .nil) (show RelV (.ref a) (.ref a)from rfl)
 classical
 have o:∀(i:Nat) (b:Addr) (ks:L5),as[i]?=some b->hs[i]?=some ks->∃c,Reads s.heap (.ref b) (.list (ks.map PyData.int)) c:=λi b ks d f=>Zp I (DV.lst (C i b ks d f) (Y2 ks)) (show RelV (.ref b) (.ref b)from rfl)
 have m:∀(i:Nat) (b:Addr) (ks:L5),as[i]?=some b->hs[i]?=some ks->decide (∃c,Reads s.heap (.ref b) (.list []) c)=decide (ks=[]):=λi b ks d f=>by
  let⟨c,k⟩:=o i b ks d f;rw[decide_eq_decide];constructor
  .rintro⟨N,J⟩;have e:=SeqAt.Reads.unique _ _ _ _ _ (show PyData.canLay0 (.list [])=true from rfl) J k
   simp_all
  .rintro rfl;exact⟨c,k⟩
 refine SeqAt.in_listAt (λw=>decide (∃c,Reads s.heap w (.list []) c)) F.isList (λw j=>?_) ⟨.bl _,H,I,rfl,?_⟩
 .let⟨i,g,e⟩:=mem_iff_getElem.mp (show w∈as.map Value.ref by simpa using j);rw[getElem_map]at e;rw[vt]at g;subst e;have d:as[i]?=some as[i]:=vz g;have f:hs[i]?=some hs[i]:=vz ⋯;let⟨c,k⟩:=o i _ _ d f;have z:=SeqAt.eqAt_reads _ _ X.A.in1 s _ _ _ _ k G (by show PyData.canLayAll0 _=true;exact ke_canLayAll0 _) rfl (by
   show X.A.in1.units+min (PyData.depthAll _+1) (0+1)<cLine;have O:X.A.in1.units=X.A.units+1:=rfl;lia)
  rw[IL,<-m i _ _ d f]at z;exact z
 .have e:(as.map Value.ref).toArray.any (λw=>decide (∃c,Reads s.heap w (.list []) c))=hs.any λks=>decide (ks=[]):=by
   rw[List.any_toArray,List.any_map,Bool.eq_iff_iff,any_eq_true,any_eq_true];constructor
   .rintro⟨b,B,j⟩;let⟨i,g,rfl⟩:=mem_iff_getElem.mp B;exact⟨hs[i],getElem_mem _,by rw[<-m i _ _ (vz g) (vz ⋯)];exact j⟩
   .rintro⟨ks,D,j⟩;let⟨i,g,rfl⟩:=mem_iff_getElem.mp D;refine⟨as[i],getElem_mem _,?_⟩;show decide _=true;rw[m i _ _ (vz ⋯) (vz g)];exact j
  rw[e];exact q
def rY(K:cG)(a:Addr)(n:Nat):It:=
 ⟨λi H=>∃xs x,cm K H a xs/\i<n/\xs[n-1-i]?=some x,λi H x H'=>H'=H/\∀xs,cm K H a xs->xs[n-1-i]?=some x,λi j=>i=n⟩
def KR{P:Program}{w:World}{K:cG}{tg:Expr}(a it:Addr)(n:Nat):Turn P w K tg (rY K a n) [it] it (λi h=>h.IsRevIter it a ((n:Int)-1-(i:Nat))) where
 mem:=by simp
 obj:=λi h f b j=>by
  have e:b=it:=by simpa using j
  subst e;let⟨o,e,c,d⟩:=f
  simp_all
 keep:=λi h q f k=>f.at λo e=>k it (by simp) o e
 item:=by
  intro X C D B F i g s L H E I r f m;subst C D B;let⟨xs,x,G,R,J⟩:=m;let⟨U,Y,p,hz⟩:=I.list G;let⟨u,S,W⟩:=Y.get J;let⟨t,v,fCt,y,z,A⟩:=r it (by simp);have e:((n:Int)-1-(i:Nat))=((n-1-i:Nat):Int):=⋯
  rw[e]at f;refine wpAny_pyNext_rev_item f p.isList (x:=u) #v[S] λq l Z=>?_
  have M:Inv X g L H {s with heap:=q}:=I.turned (t':=s.toks) (λb o j e=>(Z.2 b j).trans e) t v y z A;have N:(((n-1-i:Nat):Int)-1)=((n:Int)-1-((i+1:Nat):Int)):=⋯
  rw[N]at l;let⟨o,Q,c,d⟩:=id l;exact⟨u,rfl,sZ (s:={s with heap:=q}) Q c d nofun ⟨x,H,M,W,⟨rfl,λys T=>by rw[I.fI T G];exact J⟩,l,λb j=>(r b j).1⟩⟩
 done:=by
  intro X C D B F i g s L H E I r f m;subst C D B;have m:i=n:=m;subst m;let⟨t,v,fCt,y,z,A⟩:=r it (by simp);rw[show((i:Int)-1-(i:Nat)) = -1 by lia]at f;exact wpAny_pyNext_rev_end (I.ok.hd F) f λq O=>⟨rfl,I.turned (t':=s.toks) (λb o j e=>O b o j e) t v y z A⟩
 self:=λ_ _ _ _ _ f h=>wpAny_pyIter_revIter f h
def sW(K:cG)(ta:TA):TI:=λσ H R=>ta σ H λvs H1=>∃a xs,vs=[.ref a]/\cm K H1 a xs/\R (rY K a ⇑xs) H1
def Mx{X:Cx}{E a:Expr}{l:TA}{p j:Pos}(v:Gl X "reversed")(x:X.mg "reversed"= none)(r:PA X [a] l)(z:starEach [a] X.env=[(false,eval a X.env)]:=by rfl) :
  PI X E (.Call (.Name "reversed" p) [a] [] j) (sW X.K l):=by
 intro i s F H R I h;refine Call_ (Z2 I v x E4 (PyProof.Rows.callWith_type1 (cN (r j i s F H _ I h) λJ d z_=>?_) z rfl));obtain⟨K,n,k,B,A⟩:=z_;let⟨b,m,rfl,y,q⟩:=A;let⟨u,rfl,C⟩:=vals1 B;cases C;let⟨g,D,p,G⟩:=k.list y;have w:=⇑D;refine call_reversed_list p.isList ?_;have f:(d.heap.push (revObj b ((g.toArray.size:Int)-1))).IsRevIter d.heap.objs.size b ((⇑m:Int)-1-((0:Nat):Int)):=⟨_,Heap.get?_push_size _ rfl,rfl,by rw[w];simp[revObj]⟩
 refine wpAny_pyIter_revIter (s:={d with heap:=d.heap.push (revObj b ((g.toArray.size:Int)-1))}) f ?_;refine⟨d.heap.objs.size,[d.heap.objs.size],_,_,n,rfl,k.kept (t':=d.toks) λb o e=>vJ _ e,KR b _ ⇑m,f,λc t=>?_,q⟩;have e:c=d.heap.objs.size:=by simpa using t
 subst e;exact k.ie (vb _) (k.cL.fresh (vb _))
def IM{K:cG}{a:Addr}{xs:N2}{g:TG}{j:TS}{D:Ends}{b:St}{H:Hp}(c:Nat->St->Hp->Prop)(k:c 0 b H)(o:∀i b H,i<=⇑xs->c i b H->cm K H a xs)
  (r:∀i x b H,i<⇑xs->xs[⇑xs-1-i]?=some x->c i b H->g x b H λf H2=>j {D with nx:=c (i+1),ct:=c (i+1),bk:=D.nx} f H2) (l:∀b H,c ⇑xs b H->D.nx b H) :
  ∃W:Nat->Nat->St->Hp->Prop,(∃m,W 0 m b H)/\∀i m b H,W i m b H->
   ((rY K a ⇑xs).stop i H/\D.nx b H)\/((rY K a ⇑xs).go i H/\∃N:St->Hp->Prop,(∀S' H',N S' H'->∃h,h<m/\W (i+1) h S' H')/\∀x H',(rY K a ⇑xs).lT i H x H'->g x b H' λf H2=>j {D with nx:=N,ct:=N,bk:=D.nx} f H2):=by
 refine⟨λi m b H=>m=⇑xs-i/\i<=⇑xs/\c i b H,⟨⇑xs,by simp,va _,k⟩,?_⟩;rintro i m b H ⟨rfl,n,p⟩;have q:=o i b H n p;by_cases d:i<⇑xs
 .refine .inr ⟨⟨xs,xs[⇑xs-1-i],q,d,vz ⋯⟩,c (i+1),λS' H' s=>⟨⇑xs-(i+1),⋯,rfl,d,s⟩,λx H' y=>?_⟩;let⟨e,y⟩:=y;subst e;exact r i x b _ d (y xs q) p
 .have e:i=⇑xs:=⋯
  subst e;exact .inl ⟨rfl,l b H p⟩
def rd_iRev{K:cG}{b:TA}{c:St}{H:Hp}{R:It->Hp->Prop}(h:b c H λvs H1=>∃a xs,vs=[.ref a]/\cm K H1 a xs/\R (rY K a ⇑xs) H1):sW K b c H R:=h
section
variable{X:Cx}
def uf(K:cG)(ta:TE):TT:=λσ H Q=>ta σ H λx H'=>∃k,oG K x H' k/\Q k H'
def MD{a:Expr}{c:TE}(d:PE X a c)(e:∀b,isTrue a X.env b=(do let v <-b;standAt a.pos;holding [v] (truthy v))):PT X a (uf X.K c):=Ie d e
end
def rd_tru{K:cG}{a:TE}{b:St}{H:Hp}{Q:Bool->Hp->Prop}(h:a b H λx H'=>∃k,oG K x H' k/\Q k H'):uf K a b H Q:=h
def BX{K:cG}{a b:Addr}{xs zs:N2}{k:Nat}{ci:L6}{g:TG}{z:TT}{w:TE}{A:St}{H:Hp}{Z:Addr->N2->Hp->Prop}(d:Nat->N2->Hp->Prop)(s:⇑xs=⇑zs)(B:d 0 [] H)(F:∀i ys H,i<=⇑xs->d i ys H->cm K H a xs/\cm K H b zs)
  (G:∀i u v ys H T H',xs[i]?=some u->zs[i]?=some v->d i ys H->cj H H'->H' T=some (.tup [u,v])->g (.ref T) (dH k ci A) H' λc H2=>z c H2 λb j=>if b=true then w c j λv n=>⇑ys<sizeLine/\d (i+1) (ys++[v]) n else d (i+1) ys j)
  (D:∀ys H,d ⇑xs ys H->⇑ys<=sizeLine/\∀p,H p=none->Z p ys H) :
  ∃W:Nat->Nat->N2->Hp->Prop,(∃m,W 0 m [] H)/\∀i m ys H,W i m ys H->
   ((oD K a b).stop i H/\⇑ys<=sizeLine/\∀p,H p=none->Z p ys H)\/
   ((oD K a b).go i H/\∃N:N2->Hp->Prop,(∀f H',N f H'->∃t,t<m/\W (i+1) t f H')/\∀x H',(oD K a b).lT i H x H'->g x (dH k ci A) H' λc H2=>z c H2 λb j=>
    if b=true then w c j λv n=>⇑ys<sizeLine/\N (ys++[v]) n else N ys j):=by
 refine⟨λi m ys H=>m=⇑xs-i/\i<=⇑xs/\d i ys H,⟨⇑xs,by simp,va _,B⟩,?_⟩;rintro i m ys H ⟨rfl,E,p⟩;let⟨q,r⟩:=F i ys H E p;by_cases l:i<⇑xs
 .refine .inr ⟨⟨xs,xs[i],zs,zs[i],q,by simp[l],r,by simp⟩,d (i+1),λf H' I=>⟨⇑xs-(i+1),⋯,rfl,l,I⟩,λx H' y=>?_⟩;let⟨T,u,v,rfl,C,e,y,J⟩:=y;exact G i u v ys H T H' (y xs q) (J zs r) p (λb o h=>by rw[e,jg (je h C)];exact h) (by rw[e];exact jA)
 .have e:i=⇑xs:=⋯
  subst e;exact .inl ⟨⟨xs,zs,q,r,.inl (vb _)⟩,D ys H p⟩
section
variable{X:Cx}{e:Expr}{te:TE}
def pU(K:cG)(te:TE)(ts:TO):TE:=λσ H Q=>te σ H λx H1=>ts σ H1 λst H2=>st=some (-1)/\∃a xs,x = .ref a/\cm K H2 a xs/\∀p,H2 p=none->Q (.ref p) (upd H2 p (.lst xs.reverse))
def Im{xs:N2}{us:L9}(h:Vals xs us):Vals xs.reverse us.reverse:=by
 induction h with
 | nil=>exact .nil
 | cons r _ ih=>rw[reverse_cons,reverse_cons];exact ih.append (.cons r .nil)
def Ec{st:Expr}{p:TO}{n j:Pos}(A:PE X e te)(B:PO X (some st) p):PE X (.Subscript e (.Slice none none (some st) n) j) (pU X.K te p):=by
 intro c s f H Q I h;refine Subscript_ (cN (A c s f H _ I h) λv K z_=>?_);obtain⟨x,t,w,J,G⟩:=z_;refine wpAny_Slice ?_;rw[evalPart_none];refine uc ?_;refine uc ?_;refine cN (B c K f t _ w G) λk d z_=>?_;obtain⟨N,u,y,F,i,a,L,z,C,q⟩:=z_
 subst i z;cases J;have g:Inv X c f u {d with heap:=d.heap.push {cls:=.type "slice",data:=.fields #[.none,.none,k]}}:=y.kept (t':=d.toks) λb E q=>vJ _ q
 let⟨D,r,m,M⟩:=g.list C;have l:=⇑r;show wpAny (model X.prog X.w) X.A (subscriptTail e (.Slice none none (some st) n) (.ref a) (.ref d.heap.objs.size)) (EP X c f Q) X.xe {d with heap:=d.heap.push {cls:=.type "slice",data:=.fields #[.none,.none,k]}};refine tail_any (ops:=[.ref a,.ref d.heap.objs.size]) m.isList.typeIs slot_list_getitem.lookup ?_ (by with_unfolding_all rfl);refine wpAny_getItem_list_slice m.isList (Heap.IsSliceOf.new ..) .none .none F nofun ?_ (by simp_all);rw[PySem.W.krv_pick];refine⟨.ref (d.heap.push {cls:=.type "slice",data:=.fields #[.none,.none,k]}).objs.size,_,g.laid (t':=d.toks) (o:=.lst L.reverse) (λb E q=>vJ _ q) (vb _) ?_,rfl,q _ (g.cL.fresh (vb _))⟩;exact⟨by simp_all,_,0,Im r,Heap.get?_push_size _ rfl⟩
end
def rd_revS{K:cG}{c:TE}{d:TO}{b:St}{H:Hp}{Q:VK}(h:c b H λx H1=>d b H1 λst H2=>st=some (-1)/\∃a xs,x = .ref a/\cm K H2 a xs/\∀p,H2 p=none->Q (.ref p) (upd H2 p (.lst xs.reverse))):pU K c d b H Q:=h
def Eo{K:cG}{i j k:Nat}{a:Addr}{x y z:V}{b:St}{H:Hp}{R:St->Hp->Prop}(e:cJ K H a [x,y,z])(h:cC i x b H λS' H'=>cC j y S' H' λS' H'=>cC k z S' H' R):mX K 3 (dX (cC i) (dX (cC j) (dX (cC k) mW))) (.ref a) b H R:=
 ⟨a,[x,y,z],rfl,e,rfl,x,[y,z],rfl,y,[z],rfl,z,[],rfl,rfl,h⟩
def AK{K:cG}{i j k l:Nat}{a:Addr}{x y z w:V}{b:St}{H:Hp}{R:St->Hp->Prop}(e:cJ K H a [x,y,z,w])(h:cC i x b H λS' H'=>cC j y S' H' λS' H'=>cC k z S' H' λS' H'=>cC l w S' H' R):mX K 4 (dX (cC i) (dX (cC j) (dX (cC k) (dX (cC l) mW)))) (.ref a) b H R:=
 ⟨a,[x,y,z,w],rfl,e,rfl,x,[y,z,w],rfl,y,[z,w],rfl,z,[w],rfl,w,[],rfl,rfl,h⟩
def qk(lo:Int)(n:Nat):It:=⟨λi j=>i<n,λi H x H'=>H'=H/\x = .int (lo-i),λi j=>n<=i⟩
def FA{P:Program}{w:World}{K:cG}{L:Expr}(it:Addr)(lo:Int)(n:Nat):Turn P w K L (qk lo n) [it] it (λi h=>IsRangeIter h it (lo+(i:Nat)*(-1)) ((n:Int)-(i:Nat)) (-1)) where
 mem:=by simp
 obj:=λi h c b d=>by
  have e:b=it:=by simpa using d
  simp_all
 keep:=λi h g c k=>k it (by simp) _ c
 item:=by
  intro X x A u y i a s C H E I j c z;subst x A u;let⟨l,m,fCt,p,q,r⟩:=j it (by simp);have W:=Walks.range (prog:=X.prog) (w:=X.w) (I.ok.hd y) it lo (-1) n;refine W.item i s _ _ z c λv g B G f J=>?_
  let⟨t,rfl⟩:=G;have D:Inv X a C H {s with heap:=g,toks:=B}:=I.turned (λb o d e=>J b o #v[d] e) l m p q r;refine⟨_,rfl,sZ (s:={s with heap:=g,toks:=B}) (n:="range_iterator") f rfl rfl nofun ⟨.int (lo-i),H,D,⟨t,?_⟩,⟨rfl,rfl⟩,f,λb d=>(j b d).1⟩⟩;rw[show lo+(i:Int)*(-1)=lo-i by lia]
 done:=by
  intro X x A u y i a s C H E I j c z;subst x A u;let⟨l,m,fCt,p,q,r⟩:=j it (by simp);exact wpAny_pyNext_range_end (I.ok.hd y) c (by have:n<=i:=z;lia) λg F=>⟨rfl,I.turned (t':=s.toks) (λb o d e=>F b o d e) l m p q r⟩
 self:=λZ Z Z Z Z c h=>wpAny_pyIter_rangeiter c h
section
variable{X:Cx}{tg:Expr}
def ku(a b:Int):Builtin.Range.rangeSize a b (-1)=if b<a then a-b else 0:=by
 unfold Builtin.Range.rangeSize
 lia
def GN(c : -(2^61)<=a)(d:a<2^61)(e : -(2^61)<=b)(h:b<2^61):Builtin.Range.small a b (-1)=true:=by
 have f:∀x:Int,-(2^62)<=x->x<2^62->Builtin.Range.rangeFitsLong x=true:=λx c d=>by
  unfold Builtin.Range.rangeFitsLong;simp;lia
 unfold Builtin.Range.small;rw[ku];have g : -(2^62)<=(if b<a then a-b else 0)/\(if b<a then a-b else 0)<2^62:=by split<;>lia
 rw[f a ⋯ ⋯,f b ⋯ ⋯,f (-1) nofun nofun,f _ g.1 g.2,vc (show¬((-1:Int)>0) by decide),f (b+(-1+1)) ⋯ ⋯];simp
def Hm{a:Ny}{f:St}{H:Hp}{s:Shared}{R:It->Hp->Prop}{E:Nz}{lo hi:Int}{t u v:Tok}{d:Nat}(I:Inv X a f H s)(i : -(2^61)<=lo)(j:lo<2^61)(k : -(2^61)<=hi)(l:hi<2^61)
  (q:R (qk lo (lo-hi).toNat) H):wpAny (model X.prog X.w) X.A (pyIter (.ref s.heap.objs.size)) (vr X a f tg R) E {s with heap:=s.heap.push {cls:=.type "range",data:=.fields #[.int lo t,.int hi u,.int (-1) v]},toks:=d}:=by
 refine wpAny_pyIter_range (IsRange.new ..) (GN i j k l) ?_;have c:Inv X a f H {s with heap:=s.heap.push {cls:=.type "range",data:=.fields #[.int lo t,.int hi u,.int (-1) v]},toks:=d}:=I.kept λb o e=>vJ _ e
 refine⟨(s.heap.push {cls:=.type "range",data:=.fields #[.int lo t,.int hi u,.int (-1) v]}).objs.size,[(s.heap.push {cls:=.type "range",data:=.fields #[.int lo t,.int hi u,.int (-1) v]}).objs.size],_,_,H,rfl,
  c.kept (t':=d) λb o e=>vJ _ e,FA _ lo (lo-hi).toNat,?_,λb m=>?_,q⟩
 .have g:lo+((0:Nat):Int)*(-1)=lo:=by simp
  have h:(((lo-hi).toNat:Nat):Int)-((0:Nat):Int)=Builtin.Range.rangeSize lo hi (-1):=by rw[ku];split<;>lia
  show IsRangeIter _ _ (lo+((0:Nat):Int)*(-1)) ((((lo-hi).toNat:Nat):Int)-((0:Nat):Int)) (-1);rw[g,h];exact Heap.get?_push_size _ rfl
 .have e:b=(s.heap.push {cls:=.type "range",data:=.fields #[.int lo t,.int hi u,.int (-1) v]}).objs.size:=by simpa using m
  subst e;exact c.ie (vb _) (c.cL.fresh (vb _))
def pE(ta:TA):TI:=λσ H R=>ta σ H λvs H1=>∃i j:Int,vs=[.int i,.int j,.int (-1)]/\(-(2^61)<=i/\i<2^61/\-(2^61)<=j/\j<2^61)/\R (qk i (i-j).toNat) H1
def Hg(m:Gl X "range")(n:X.mg "range"= none)(l:PA X [a,b,c] ta)(o:starEach [a,b,c] X.env=(false,eval a X.env)::starEach [b,c] X.env:=by rfl)(f:(backTo pos (starEach [b,c] X.env)).any (·.1)=false:=by rfl) :
  PI X tg (.Call (.Name "range" p) [a,b,c] [] pos) (pE ta):=by
 intro d s z H R I h;refine Call_ (Z2 I m n boot_range (PyProof.Rows.callWith_type1 (cN (l pos d s z H _ I h) λD B z_=>?_) o f));obtain⟨E,A,k,x,g⟩:=z_;let⟨i,j,e,⟨g,u,v,w⟩,q⟩:=g;subst e;cases x with
 | cons r rr=>
  cases rr with
  | cons r' rr=>
   cases rr with
   | cons r'' rr=>
    cases rr;let⟨t,rfl⟩:=r;let⟨C,rfl⟩:=r';let⟨y,rfl⟩:=r'';exact call_range_3 nofun (Hm k g u v w q) (.inl (PyProof.noPylong_small ⋯))
end
def rd_rngD{a:St}{H:Hp}{R:It->Hp->Prop}(h:ta a H λvs H1=>∃i j:Int,vs=[.int i,.int j,.int (-1)]/\(-(2^61)<=i/\i<2^61/\-(2^61)<=j/\j<2^61)/\R (qk i (i-j).toNat) H1):pE ta a H R:=h
def Hu{lo:Int}{n:Nat}{g:TG}{h:TS}{D:Ends}{a:St}{H:Hp}(b:Nat->St->Hp->Prop)(j:b 0 a H)(l:∀i a H,i<n->b i a H->g (.int (lo-i)) a H λd H2=>h {D with nx:=b (i+1),ct:=b (i+1),bk:=D.nx} d H2)(k:∀a H,b n a H->D.nx a H) :
  ∃W:Nat->Nat->St->Hp->Prop,(∃m,W 0 m a H)/\∀i m a H,W i m a H->
   ((qk lo n).stop i H/\D.nx a H)\/((qk lo n).go i H/\∃N:St->Hp->Prop,(∀S' H',N S' H'->∃f,f<m/\W (i+1) f S' H')/\∀x H',(qk lo n).lT i H x H'->g x a H' λd H2=>h {D with nx:=N,ct:=N,bk:=D.nx} d H2):=by
 refine⟨λi m a H=>m=n-i/\i<=n/\b i a H,⟨n,by simp,va _,j⟩,?_⟩;rintro i m a H ⟨rfl,q,p⟩;by_cases c:i<n
 .refine .inr ⟨c,b (i+1),λS' H' o=>⟨n-(i+1),⋯,rfl,c,o⟩,λx H' y=>?_⟩;let⟨e,y⟩:=y;subst e y;exact l i a _ c p
 .have e:i=n:=⋯
  subst e;exact .inl ⟨vb _,k a H p⟩
section
variable{X:Cx}
def G6:sJ X "list.index" (λx vs H Q=>∃(p:Addr) (xs:N2) (y z:V) (j:Nat),x = .ref p/\vs=[y]/\cm X.K H p xs/\ff y=true/\xs.all ff=true/\xs[j]?=some z/\mF z y=true/\(∀(m:Nat) (c:V),m<j->xs[m]?=some c->mF c y=false)/\Q (.int j) H):=by
 intro E s σ H x vs v us Q I Z Y h;let⟨p,xs,y,z,j,rfl,rfl,U,N,d,f,M,k,q⟩:=h;cases Z;let⟨u,rfl,W⟩:=vals1 Y;let⟨a,r,G,hz⟩:=I.list U;have lx:=⇑r;have jl:=(vx.mp f).1;let⟨w',S,t⟩:=r.get f;have O:ff z=true:=all_eq_true.mp d z (vm f);let⟨⟨K,L,A,sl⟩,R,B,n,C⟩:=id G.isList;simp only at B C;subst B C;have g:j<a.toArray.size:=by rw[size_toArray];lia
 have J:sizeLine<2^62:=by decide
 have o:(j:Int)<2^63-1:=⋯
 refine call_meets F.slot_list_index G.isList.typeIs F.entry_list_index (F.args_list_index_2 _ _) (SeqAt.list_indexAt p a.toArray n L sl u (lY y) j g o ?_ ?_) ⟨R,λy' l=>yf W N r d y' #v[l],⟨.int j,H,I.tok _,⟨_,rfl⟩,q⟩⟩
 .have e:a.toArray[j]=w':=by
   have:=vx.mp S;let⟨h,e⟩:=this;simpa using e
  rw[e,uI t O];exact M
 .intro m D i;have P:m<⇑a:=by rw[size_toArray]at D;exact D
  obtain⟨c,b⟩:∃c,xs[m]?=some c:=⟨_,vz ⋯⟩
  let⟨w2,T,w⟩:=r.get b;have e:a.toArray[m]=w2:=by
   simp_all
  rw[e,uI w (all_eq_true.mp d c (vm b))];exact k m c i b
end
section
variable{σ:St}{H:Hp}{D:Ends}{Q:VK}{ta tb te:TE}
def rd_seq(h:t {D with nx:=u D} σ H):ue t u D σ H:=h
def rd_asg(h:te σ H λx H1=>g x σ H1 D.nx):nX te g D σ H:=h
def rd_v0{r:St}(h:Q v H):fq 0 (some v::r) H Q:=⟨v,rfl,h⟩
def rd_n0{r:St}{R:St->Hp->Prop}(h:R (some v::r) H):cC 0 v (a0::r) H R:=h
def rd_v1{r:St}(h:Q v H):fq 1 (a0::some v::r) H Q:=⟨v,rfl,h⟩
def rd_n1{r:St}{R:St->Hp->Prop}(h:R (a0::some v::r) H):cC 1 v (a0::a1::r) H R:=h
def rd_v2{r:St}(h:Q v H):fq 2 (a0::a1::some v::r) H Q:=⟨v,rfl,h⟩
def rd_n2{r:St}{R:St->Hp->Prop}(h:R (a0::a1::some v::r) H):cC 2 v (a0::a1::a2::r) H R:=h
def rd_v3{r:St}(h:Q v H):fq 3 (a0::a1::a2::some v::r) H Q:=⟨v,rfl,h⟩
def rd_n3{r:St}{R:St->Hp->Prop}(h:R (a0::a1::a2::some v::r) H):cC 3 v (a0::a1::a2::a3::r) H R:=h
def rd_v4{r:St}(h:Q v H):fq 4 (a0::a1::a2::a3::some v::r) H Q:=⟨v,rfl,h⟩
def rd_n4{r:St}{R:St->Hp->Prop}(h:R (a0::a1::a2::a3::some v::r) H):cC 4 v (a0::a1::a2::a3::a4::r) H R:=h
def rd_v5{r:St}(h:Q v H):fq 5 (a0::a1::a2::a3::a4::some v::r) H Q:=⟨v,rfl,h⟩
def rd_n5{r:St}{R:St->Hp->Prop}(h:R (a0::a1::a2::a3::a4::some v::r) H):cC 5 v (a0::a1::a2::a3::a4::a5::r) H R:=h
def rd_v6{r:St}(h:Q v H):fq 6 (a0::a1::a2::a3::a4::a5::some v::r) H Q:=⟨v,rfl,h⟩
def rd_n6{r:St}{R:St->Hp->Prop}(h:R (a0::a1::a2::a3::a4::a5::some v::r) H):cC 6 v (a0::a1::a2::a3::a4::a5::a6::r) H R:=h
def rd_v7{r:St}(h:Q v H):fq 7 (a0::a1::a2::a3::a4::a5::a6::some v::r) H Q:=⟨v,rfl,h⟩
def rd_n7{r:St}{R:St->Hp->Prop}(h:R (a0::a1::a2::a3::a4::a5::a6::some v::r) H):cC 7 v (a0::a1::a2::a3::a4::a5::a6::a7::r) H R:=h
def rd_v8{r:St}(h:Q v H):fq 8 (a0::a1::a2::a3::a4::a5::a6::a7::some v::r) H Q:=⟨v,rfl,h⟩
def rd_n8{r:St}{R:St->Hp->Prop}(h:R (a0::a1::a2::a3::a4::a5::a6::a7::some v::r) H):cC 8 v (a0::a1::a2::a3::a4::a5::a6::a7::a8::r) H R:=h
def rd_v9{r:St}(h:Q v H):fq 9 (a0::a1::a2::a3::a4::a5::a6::a7::a8::some v::r) H Q:=⟨v,rfl,h⟩
def rd_n9{r:St}{R:St->Hp->Prop}(h:R (a0::a1::a2::a3::a4::a5::a6::a7::a8::some v::r) H):cC 9 v (a0::a1::a2::a3::a4::a5::a6::a7::a8::a9::r) H R:=h
def rd_v10{r:St}(h:Q v H):fq 10 (a0::a1::a2::a3::a4::a5::a6::a7::a8::a9::some v::r) H Q:=⟨v,rfl,h⟩
def rd_n10{r:St}{R:St->Hp->Prop}(h:R (a0::a1::a2::a3::a4::a5::a6::a7::a8::a9::some v::r) H):cC 10 v (a0::a1::a2::a3::a4::a5::a6::a7::a8::a9::a10::r) H R:=h
def rd_v11{r:St}(h:Q v H):fq 11 (a0::a1::a2::a3::a4::a5::a6::a7::a8::a9::a10::some v::r) H Q:=⟨v,rfl,h⟩
def rd_n11{r:St}{R:St->Hp->Prop}(h:R (a0::a1::a2::a3::a4::a5::a6::a7::a8::a9::a10::some v::r) H):cC 11 v (a0::a1::a2::a3::a4::a5::a6::a7::a8::a9::a10::a11::r) H R:=h
def rd_v12{r:St}(h:Q v H):fq 12 (a0::a1::a2::a3::a4::a5::a6::a7::a8::a9::a10::a11::some v::r) H Q:=⟨v,rfl,h⟩
def rd_n12{r:St}{R:St->Hp->Prop}(h:R (a0::a1::a2::a3::a4::a5::a6::a7::a8::a9::a10::a11::some v::r) H):cC 12 v (a0::a1::a2::a3::a4::a5::a6::a7::a8::a9::a10::a11::a12::r) H R:=h
def rd_v13{r:St}(h:Q v H):fq 13 (a0::a1::a2::a3::a4::a5::a6::a7::a8::a9::a10::a11::a12::some v::r) H Q:=⟨v,rfl,h⟩
def rd_n13{r:St}{R:St->Hp->Prop}(h:R (a0::a1::a2::a3::a4::a5::a6::a7::a8::a9::a10::a11::a12::some v::r) H):cC 13 v (a0::a1::a2::a3::a4::a5::a6::a7::a8::a9::a10::a11::a12::a13::r) H R:=h
def rd_v14{r:St}(h:Q v H):fq 14 (a0::a1::a2::a3::a4::a5::a6::a7::a8::a9::a10::a11::a12::a13::some v::r) H Q:=⟨v,rfl,h⟩
def rd_n14{r:St}{R:St->Hp->Prop}(h:R (a0::a1::a2::a3::a4::a5::a6::a7::a8::a9::a10::a11::a12::a13::some v::r) H):cC 14 v (a0::a1::a2::a3::a4::a5::a6::a7::a8::a9::a10::a11::a12::a13::a14::r) H R:=h
def rd_v15{r:St}(h:Q v H):fq 15 (a0::a1::a2::a3::a4::a5::a6::a7::a8::a9::a10::a11::a12::a13::a14::some v::r) H Q:=⟨v,rfl,h⟩
def rd_n15{r:St}{R:St->Hp->Prop}(h:R (a0::a1::a2::a3::a4::a5::a6::a7::a8::a9::a10::a11::a12::a13::a14::some v::r) H):cC 15 v (a0::a1::a2::a3::a4::a5::a6::a7::a8::a9::a10::a11::a12::a13::a14::a15::r) H R:=h
def rd_v16{r:St}(h:Q v H):fq 16 (a0::a1::a2::a3::a4::a5::a6::a7::a8::a9::a10::a11::a12::a13::a14::a15::some v::r) H Q:=⟨v,rfl,h⟩
def rd_n16{r:St}{R:St->Hp->Prop}(h:R (a0::a1::a2::a3::a4::a5::a6::a7::a8::a9::a10::a11::a12::a13::a14::a15::some v::r) H):cC 16 v (a0::a1::a2::a3::a4::a5::a6::a7::a8::a9::a10::a11::a12::a13::a14::a15::a16::r) H R:=h
def rd_const(h:Q v H):tC v σ H Q:=h
def rd_op(h:ta σ H λx H1=>tb σ H1 λy H2=>r x y H2 Q):uY r ta tb σ H Q:=h
def rd_un{r:V->Hp->VK->Prop}(h:ta σ H λx H1=>r x H1 Q):EY r ta σ H Q:=h
def rd_i0{g:Int->Int->V}(h:Q (g i j) H):oU g (.int i) (.int j) H Q:=⟨i,j,rfl,rfl,h⟩
def NM{C:Int->Int->Prop}{g:Int->Int->V}(c:C i j)(h:Q (g i j) H):rI C g (.int i) (.int j) H Q:=⟨i,j,rfl,rfl,c,h⟩
def rd_u{g:Int->V}(h:Q (g i) H):rU g (.int i) H Q:=⟨i,rfl,h⟩
def rd_eqI(h:Q (.bl (decide (i=j))) H):Bu (.int i) (.int j) H Q:=by
 refine⟨rfl,?_⟩;rw[show decide (V.int i=V.int j)=decide (i=j) by simp];exact h
def rd_eqS(h:Q (.bl (decide (i=j))) H):Bu (.str i) (.str j) H Q:=by
 refine⟨rfl,?_⟩;rw[show decide (V.str i=V.str j)=decide (i=j) by simp];exact h
def rd_if(h:c σ H λb H1=>if b=true then t D σ H1 else u D σ H1):rQ c t u D σ H:=h
def rd_test{R:Bool->Hp->Prop}(h:te σ H λx H'=>∃k,x = .bl k/\R k H'):om te σ H R:=h
def rd_tB{R:Bool->Hp->Prop}(h:te σ H λx H'=>∃k,x = .bl k/\R k H'):tB te σ H R:=h
def rd_blP{R:Bool->Prop}(h:R k):∃a,V.bl k = .bl a/\R a:=⟨k,rfl,h⟩
def rd_not{R:Bool->Hp->Prop}(h:t σ H λc H1=>R (!c) H1):tY t σ H R:=h
def rd_and{R:Bool->Hp->Prop}(h:t σ H λc H1=>if c=true then u σ H1 R else R false H1):tR t u σ H R:=h
def rd_or{R:Bool->Hp->Prop}(h:t σ H λc H1=>if c=true then R true H1 else u σ H1 R):EW t u σ H R:=h
def rd_andV(h:ta σ H λx H1=>∃c,x = .bl c/\if c=true then tb σ H1 Q else Q (.bl false) H1):pM ta tb σ H Q:=h
def rd_ifE(h:t σ H λc H1=>if c=true then ta σ H1 Q else tb σ H1 Q):EU t ta tb σ H Q:=h
def rd_ret(h:te σ H D.rt):tZ te D σ H:=h
def rd_next(h:D.nx σ H):pS D σ H:=h
def rd_drop(h:te σ H λj H1=>D.nx σ H1):pQ te D σ H:=h
def rd_cb{r:N2->Hp->VK->Prop}(h:t σ H λvs H1=>r vs H1 Q):BF r t σ H Q:=h
def rd_call{sp:Sp}(h:t σ H λvs H1=>sp (vs++dvs) H1 Q E):nY sp dvs E t σ H Q:=h
def rd_fld{K:cG}{f:Str}(h:ta σ H λx H1=>∃a C dx fs v,x = .ref a/\H1 a=some (.ins C dx fs)/\lU K C/\dg K C f/\fs.lookup f=some v/\Q v H1):tV K ta f σ H Q:=h
def rd_sfld{K:cG}{f:Str}(h:tb σ H λy H1=>ta σ H1 λx H2=>∃a C dx fs,x = .ref a/\H2 a=some (.ins C dx fs)/\lU K C/\dg K C f/\⇑fs<1000/\D.nx σ (upd H2 a (.ins C dx (cF f y fs)))):tO K ta tb f D σ H:=h
def rd_meth{sp:Sp}(h:ta σ H λx H1=>∃a dx fs,x = .ref a/\H1 a=some (.ins C dx fs)/\fs.lookup m=none/\t σ H1 λvs H2=>sp (x::(vs++dvs)) H2 Q E):oj C m sp dvs E ta t σ H Q:=h
def rd_make{sp:Sp}(h:t σ H λvs H1=>∀x dx,H1 x=none->H1 dx=none->dx≠x->sp (.ref x::(vs++dvs)) (upd (upd H1 dx (.own x)) x (.ins C dx [])) (λv H2=>v = .de/\Q (.ref x) H2) E):pR C sp dvs E t σ H Q:=h
def rd_dIn(h:ta σ H λy H1=>tb σ H1 λx H2=>∃a o,x = .ref a/\dA H2 a y o/\Q (.bl o.isSome) H2):tU ta tb σ H Q:=h
def rd_nil{R:N2->Hp->Prop}(h:R [] H):rS σ H R:=h
def rd_cons{R:N2->Hp->Prop}(h:ta σ H λx H1=>tr σ H1 λxs H2=>R (x::xs) H2):pN ta tr σ H R:=h
def rd_lst(h:t σ H λxs H1=>⇑xs<=sizeLine/\∀p,H1 p=none->Q (.ref p) (upd H1 p (.lst xs))):tX t σ H Q:=h
def rd_tup(h:t σ H λxs H1=>⇑xs<=sizeLine/\∀p,H1 p=none->Q (.ref p) (upd H1 p (.tup xs))):uk t σ H Q:=h
def rd_chain(h:ta σ H λx H1=>tb σ H1 λy H2=>r x y H2 λz a=>∃k,z = .bl k/\(if k=true then tc σ a λc b=>r' y c b Q else Q (.bl false) a)):nZ r r' ta tb tc σ H Q:=h
def rd_bm{K:cG}{T:String}{r:V->N2->Hp->VK->Prop}{t:TA}(h:te σ H λx H1=>uq K T x H1/\t σ H1 λxs H2=>r x xs H2 Q):ET K T r te t σ H Q:=h
def rd_sl{r:V->Option Int->Option Int->Hp->VK->Prop}(h:te σ H λx H1=>tl σ H1 λl H2=>th σ H2 λu a=>r x l u a Q):EX r te tl th σ H Q:=h
def rd_nopart{R:Option Int->Hp->Prop}(h:R none H):mK σ H R:=h
def rd_part{R:Option Int->Hp->Prop}(h:te σ H λx H1=>∃i,x = .int i/\R (some i) H1):pT te σ H R:=h
def rd_int{R:Int->Prop}(h:R i):∃a,V.int i = .int a/\R a:=⟨i,rfl,h⟩
def cH{p A B:Prop}[Decidable p](a:p->A)(b:¬p->B):if decide p=true then A else B:=by
 lia
def mx{p A B:Prop}[Decidable p](a:¬p->A)(b:p->B):if(!decide p)=true then A else B:=by
 lia
def rd_rng1{a:TA}{R:It->Hp->Prop}(h:a σ H λvs H1=>∃j:Int,vs=[.int j]/\-(2^62)<=j/\j<2^62/\R (ou 0 j.toNat) H1):pC a σ H R:=h
def rd_iList{K:cG}{R:It->Hp->Prop}(h:te σ H λx H1=>∃a,x = .ref a/\(∃xs,cm K H1 a xs)/\R (oB K a) H1):pB K te σ H R:=h
def rd_p18(h:Q (.int (10^18)) H):rI ny (λi j=>.int (i^j.toNat)) (.int 10) (.int 18) H Q:=⟨10,18,rfl,rfl,⟨by decide,by decide,by decide⟩,h⟩
def rd_p30(h:Q (.int (10^30)) H):rI ny (λi j=>.int (i^j.toNat)) (.int 10) (.int 30) H Q:=⟨10,30,rfl,rfl,⟨by decide,by decide,by decide⟩,h⟩
def rd_p60(h:Q (.int (10^60)) H):rI ny (λi j=>.int (i^j.toNat)) (.int 10) (.int 60) H Q:=⟨10,60,rfl,rfl,⟨by decide,by decide,by decide⟩,h⟩
def rd_aug(h:fq i σ H λx a=>te σ a λy H1=>ti x y H1 λz H2=>cC i z σ H2 D.nx):tS i te ti D σ H:=h
def rd_ipI{f:Int->Int->Int}(h:Q (.int (f i j)) H):BP f (.int i) (.int j) H Q:=⟨i,j,rfl,rfl,h⟩
def rd_for{c:TS} (h:wi σ H λJ H1=>∃W:Nat->Nat->St->Hp->Prop,(∃m,W 0 m σ H1)/\∀i m σ H,W i m σ H->
 (J.stop i H/\D.nx σ H)\/(J.go i H/\∃N:St->Hp->Prop,(∀S' H',N S' H'->∃b,b<m/\W (i+1) b S' H')/\∀x H',J.lT i H x H'->g x σ H' λa H2=>c {D with nx:=N,ct:=N,bk:=D.nx} a H2)):tW wi g c D σ H:=h
def rd_comp (h:wi σ H λJ H1=>∃W:Nat->Nat->N2->Hp->Prop,(∃m,W 0 m [] H1)/\∀i m ys H,W i m ys H->
 (J.stop i H/\⇑ys<=sizeLine/\∀p,H p=none->Q (.ref p) (upd H p (.lst ys)))\/
 (J.go i H/\∃N:N2->Hp->Prop,(∀a H',N a H'->∃e,e<m/\W (i+1) e a H')/\∀x H',J.lT i H x H'->g x (dH n ci σ) H' λc H2=>tf c H2 λb d=>
  if b=true then te c d λv f=>⇑ys<sizeLine/\N (ys++[v]) f else N ys d)):n6 wi n ci g tf te σ H Q:=h
def rd_yes{R:Bool->Hp->Prop}(h:R true H):um σ H R:=h
def JW{n:Nat}{ci:L6}{g:TG}{x:V}{S':St}{R:St->Hp->Prop}(e:dH n ci σ=S')(h:g x S' H R):g x (dH n ci σ) H R:=by rw[e];exact h
def jC{t:TS}{S':St}(e:σ=S')(h:t D S' H):t D σ H:=by subst e;exact h
def Wu{H H':Hp}(h:H p=none)(e:upd H p o=H'):cj H H':=λb u q=>by rw[<-e,jg (je q h)];exact q
def Qn{H H':Hp}(e:upd H p o=H'):H' p=some o:=by rw[<-e];exact jA
end
def cE{K:cG}{p:Addr}{xs:N2}{i:Int}{v:V}{H:Hp}{Q:VK}(h:cm K H p xs)(e:ft xs i=some v)(q:Q v H):nU K (.ref p) (.int i) H Q:=⟨p,xs,i,v,rfl,rfl,h,e,q⟩
def ez{K:cG}{p:Addr}{xs:N2}{i:Int}{v:V}{H:Hp}{Q:VK}(h:cJ K H p xs)(e:ft xs i=some v)(q:Q v H):oV K (.ref p) (.int i) H Q:=⟨p,xs,i,v,rfl,rfl,h,e,q⟩
def cz{K:cG}{p:Addr}{xs:N2}{i:Int}{v:V}{H:Hp}{Q:VK}(h:H p=some (.tup xs))(q:Q v H)(e:ft xs i=some v:=by rfl):oV K (.ref p) (.int i) H Q:=⟨p,xs,i,v,rfl,rfl,cJ.of h,e,q⟩
end L2
local macro_rules | `(tactic| walk_at "side") => `(tactic| first | with_reducible assumption | exact L2.sS (by lia) (by lia) | exact L2.tE (by lia) (by lia) (by lia) (by lia) | exact L2.mulOkC (by first | assumption | exact L2.bits_ediv (by assumption) _) (by lia) (by lia) | lia)
local macro_rules | `(tactic| walk_at $s:str) => do
 let ws:=s.getString.splitOn " "
 if ws.head?==some "f" then
  let vs:=if ws.length==3 then["p"++ws.getD 1 "","hp"++ws.getD 1 "","H"++ws.getD 1 "","s"++ws.getD 1 "",ws.getD 2 ""++ws.getD 1 ""]else ws.drop 1
  let i:=λ(k:Nat)=>Lean.mkIdent (Lean.Name.mkSimple (vs.getD k ""))
  return <-`(tactic| (intro $(i 0):ident $(i 1):ident;generalize eH:L2.upd _ $(i 0) _ = $(i 2):ident;have $(i 3):ident:=L2.Wu $(i 1) eH;have $(i 4):ident:=L2.Qn eH;clear eH))
 if s.getString != "g" then Lean.Macro.throwUnsupported
 let as <-("rd_seq rd_asg rd_op rd_const rd_i0 rd_cons rd_nil rd_call rd_ret rd_if rd_test rd_tB rd_blP rd_not rd_next rd_v0 rd_v1 rd_v2 rd_v3 rd_v4 rd_v5 rd_v6 rd_v7 rd_v8 rd_v9 rd_v10 rd_v11 rd_v12 rd_v13 rd_v14 rd_v15 rd_v16 rd_un rd_u rd_and rd_or rd_andV rd_ifE rd_drop rd_cb rd_lst rd_tup rd_chain rd_bm rd_sl rd_nopart rd_part rd_eqI rd_eqS rd_str rd_int rd_rng1 rd_iList rd_ipI rd_aug rd_for rd_comp rd_yes rd_dget rd_prC rd_prN rd_iTup rd_sub rd_iEnum rd_iZip rd_dnew rd_dput rd_bm0 rd_iRev rd_tru rd_revS rd_rngD rd_fld rd_sfld rd_meth rd_make rd_dIn rd_n0 rd_n1 rd_n2 rd_n3 rd_n4 rd_n5 rd_n6 rd_n7 rd_n8 rd_n9 rd_n10 rd_n11 rd_n12 rd_n13 rd_n14 rd_n15 rd_n16 rd_p18 rd_p30 rd_p60".splitOn " ").toArray.mapM λn=>`(Lean.Parser.Tactic.tacticSeq| refine $(Lean.mkIdent (Lean.Name.mkStr2 "L2" n)) ?_)
 `(tactic| repeat first | with_reducible (first $[| $as]*) | (with_reducible refine L2.NM ?c ?_; (case c => ((try dsimp only); walk_at "side"))))
local macro_rules | `(tactic| exists $e) => `(tactic| (walk_at "g"; refine $e))
local macro_rules | `(tactic| ac_nf) => `(tactic| walk_at "g")
local macro_rules | `(tactic| sleep $n) => `(tactic| walk_at $(Lean.Syntax.mkStrLit s!"f {n.getNat} t"))
local macro_rules | `(tactic| trivial) => `(tactic| decide +kernel)
namespace Rp
noncomputable def ramp(s g b j:Int):Int:=s+(g-s)*j/b
end Rp
namespace Pr
open PySem L2
noncomputable def cell(ns:L5)(k:Int):Int:=ns∘k.toNat
inductive dR(K:cG)(vs:N2)(H:Hp)(Q:VK)(xk:XK):Prop
 | mk (a:Addr) (ns:L5) (k:Int) (_:vs=[.ref a,.int k]) (_:cm K H a (ns.map V.int)) (_:⇑ns<=63) (_:0<=k) (_:Q (.int (cell ns k)) H):dR K vs H Q xk
def Iy{a:L5}{k:Int}(d:0<=k)(h:k<(⇑a:Int)):ft (a.map V.int) k=some (.int (cell a k)):=by
 have c:k=((k.toNat:Nat):Int):=⋯
 have b:k.toNat<⇑a:=⋯
 have q:ft (a.map V.int) ((k.toNat:Nat):Int)=some (.int a[k.toNat]):=jS (by rw[vv,vz b]<;>rfl);rw[<-c]at q;rw[q];unfold cell;rw[vy,vz b];rfl
inductive g4(K:cG)(vs:N2)(H:Hp)(Q:VK)(xk:XK):Prop
 | mk (a:Addr) (ns:L5) (_:vs=[.ref a]) (_:cm K H a (ns.map V.int)) (_:⇑ns<=63) (_:(∀x∈ns,Builtin.Int.intBits x<=1048576)) (_:∀H',Q (.bl true) H'):g4 K vs H Q xk
def B4(s g b j:Int):Prop:=-10^61<=s/\s<=10^61/\-10^61<=g/\g<=10^61/\0<b/\b<=10^61/\-10^61<=j/\j<=10^61
def Df:Sp:=λvs H Q Z=>∃s g b j:Int,vs=[.int s,.int g,.int b,.int j]/\B4 s g b j/\Q (.int (Rp.ramp s g b j)) H
end Pr
namespace Ws
open PySem PySem.NumText L2
noncomputable def lets:Str:="abcdefghijklmnopqrstuvwxyz"
noncomputable def among(x z:Str):Bool:=decide (∀c∈x.cps.toList,c∈z.cps.toList)
noncomputable def fG(x:Str):Bool:=decide (1<=⇑x/\⇑x<=8)&&among x lets
def IZ{H H':Hp}{p:Addr}{o:HO}(h:cj H H')(a:H p=none):cj H (upd H' p o):=λb u q=>by
 rw[jg (je q a)];exact h b u q
open PySem L2
end Ws
namespace Rm
open PySem PySem.NumText PyProof.Rows L2
def IF{x:Str}{lo hi:Nu}:⇑(Txt.slice x lo hi)<=⇑x:=Txt.slice_le x lo hi
def HW:c∈Ws.lets.cps.toList↔97<=c/\c<=122:=by
 rw[show Ws.lets.cps.toList=List.range' 97 26 by trivial,List.mem_range'_1];lia
def Ef{i:Int}(a:0<=i)(b:i<26):ft (Str.ofString "abcdefghijklmnopqrstuvwxyz").cps.toList i=some (97+i.toNat):=by
 have h:∀k:Nat,k<26->ft (Str.ofString "abcdefghijklmnopqrstuvwxyz").cps.toList (k:Int)=some (97+(k:Int).toNat):=by trivial
 have e:=h i.toNat ⋯;rw[Int.toNat_of_nonneg a]at e;exact e
open PySem L2
def none_of{H H':Hp}(s:cj H H')(h:H' p=none):H p=none:=by
 cases e:H p with
 | none=>rfl
 | some u=>rw[s _ _ e]at h;cases h
inductive Fm where
 | hold (n:Int) | ring (x:Str) (n:Int) | rise (x:Str) (h n:Int) | row (ps:L8) | side (ps:L8) | again (k:Int) (x:Str)
abbrev N1:=List (Str×Fm)
noncomputable def cu(H:Hp)(a:Addr):Fm->Prop
 | .hold n=>H a=some (.tup [.str "hold",.int n])
 | .ring x n=>H a=some (.tup [.str "ring",.str x,.int n])
 | .rise x h n=>H a=some (.tup [.str "raise",.str x,.int h,.int n])
 | .row ps=>∃b,H a=some (.tup [.str "row",.ref b])/\H b=some (.tup (ps.map V.str))
 | .side ps=>∃b,H a=some (.tup [.str "side",.ref b])/\H b=some (.tup (ps.map V.str))
 | .again k x=>H a=some (.tup [.str "again",.int k,.str x])
def dG(H:Hp)(a:Addr)(p:Str×Fm):Prop:=∃b,H a=some (.tup [.str p.1,.ref b])/\cu H b p.2
def eU(H:Hp)(a:Addr)(p:Str×Int):Prop:=H a=some (.tup [.str p.1,.int p.2])
def cn{α:Type}(R:Addr->α->Prop)(as:L7)(xs:List α):Prop:=⇑as=⇑xs/\∀(i:Nat) (a:Addr) (x:α),as[i]?=some a->xs[i]?=some x->R a x
def cn.nil{b:Type}{R:Addr->b->Prop}:cn R [] []:=⟨rfl,λi a x h=>by simp at h⟩
def cn.mono{b:Type}{R S:Addr->b->Prop}{as:L7}{xs:List b}(h:cn R as xs)(k:∀a x,R a x->S a x):cn S as xs:=⟨h.1,λi a x c d=>k a x (h.2 i a x c d)⟩
def cn.snoc{f:Type}{R:Addr->f->Prop}{as:L7}{xs:List f}{a:Addr}{x:f}(h:cn R as xs)(k:R a x):cn R (as++[a]) (xs++[x]):=by
 have j:=h.1;refine⟨by simp[j],λi b y c d=>?_⟩;by_cases g:i<⇑as
 .rw[vB g]at c;rw[vB ⋯]at d;exact h.2 i b y c d
 .rw[vC ⋯]at c;rw[vC ⋯]at d;have e:i-⇑as=0:=by
   have:=(vx.mp c).1;simp at this;lia
  rw[e]at c;rw[show i-⇑xs=0 by lia]at d;simp at c d;subst c d;exact k
def cn.get{b:Type}{R:Addr->b->Prop}{as:L7}{xs:List b}{i:Nat}{x:b}(h:cn R as xs)(d:xs[i]?=some x):∃a,as[i]?=some a/\R a x:=by
 have e:=(vx.mp d).1;have f:=h.1;have c:as[i]?=some as[i]:=vz ⋯;exact⟨_,c,h.2 i _ _ c d⟩
section
variable{m:Rr}{f:Fm}{ks:L5}{g:Int}
def getD_snoc{a:Type}{l:List a}{x d:a}{j:Nat}(h:j<⇑l):(l++[x]).getD j d=l.getD j d:=by
 rw[vy,vy,vB h]
def getD_last{a:Type}{l:List a}{x d:a}:(l++[x]).getD ⇑l d=x:=by
 simp_all
end
def getD_in{a:L8}{n:Nat}(h:n<⇑a):a.getD n ⟨#[]⟩∈a:=by
 simp_all
def ZI{as:L7}{i:Int}{a:Addr}(b:0<=i)(h:as[i.toNat]?=some a):ft (as.map V.ref) i=↥a:=by
 have e:ft (as.map V.ref) ((i.toNat:Nat):Int)=↥a:=jS (by simp_all);rw[Int.toNat_of_nonneg b]at e;exact e
open PySem PySem.Spec PyProof.Rows L2
noncomputable def vN(j:Nat):V:=.int j
theorem wu:∀{ks:L5} {lo hi:Int},ks.Pairwise (· < ·)->(∀k∈ks,lo<=k/\k<hi)->⇑ks<=(hi-lo).toNat
 | [],_,_,_,_=>va _
 | k::r,lo,hi,h,b=>by
  have c:=wu (ks:=r) (lo:=k+1) (hi:=hi) (vV.mp h).2 λx a=>⟨(vV.mp h).1 x a,(b x (vp _ a)).2⟩
  have d:=b k vq;rw[vQ];lia
def so{H:Hp}(h:H a=some (.lst [])):DV H (.ref a) (.list []):=.lst h .nil
def mY:SeqAt.shaped (.list [])=true:=PySem.W.ke_shaped_ints []
theorem C3(n:Int):∀hs:L5,nO (.int n) (hs.map V.int)=decide (n∈hs)
 | []=>rfl
 | h::r=>by
  have a:=C3 n r;unfold nO at a|-;rw[uw,any_cons,a];have e:mF (.int h) (.int n)=decide (h=n):=by
   show decide _=_;simp
  grind
def EZ(n:Int)(a:L5):(if false=true then !nO (.int n) (a.map V.int)else nO (.int n) (a.map V.int))=decide (n∈a):=by rw[vc nofun,C3]
theorem pq:∀hs:L5,(hs.map V.int).all ff=true
 | []=>rfl
 | h::r=>by rw[uw,all_cons,pq r];rfl
def take_snoc{a:Type}{l:List a}{i:Nat}{x:a}(h:l[i]?=some x):l.take (i+1)=l.take i++[x]:=by
 rw[List.take_add_one,h];rfl
def tm{is:L6}{i:Nat}{x:V}(h:(is.map vN)[i]?=some x):∃j,is[i]?=some j/\x = .int j/\j∈is:=by
 rw[vv]at h;let⟨j,a,rfl⟩:=vg.mp h;exact⟨j,a,rfl,vm a⟩
def GO{ms c:L5}(e:ms.Perm c)(f:c.Nodup)(d:ms.Pairwise (·<=·)):ms.Pairwise (· < ·):=
 (List.Pairwise.and d (e.nodup_iff.mpr f)).imp λ{a b} h=>by have g:=h.1;have i:a≠b:=h.2;lia
def cU(n:Nat)(d:PyData):Prop:=d.canLay0=true/\d.depth<=n
def cU.int:cU 0 (.int i):=⟨rfl,vb _⟩
def cU.str(h:PyData.strOk x=true):cU 0 (.str x):=⟨h,vb _⟩
def cU.mono(h:cU n d)(a:n<=k):cU k d:=⟨h.1,vW h.2 a⟩
theorem KD:∀{ds:List PyData},(∀d∈ds,cU n d)->PyData.canLayAll0 ds=true/\PyData.depthAll ds<=n
 | [],_=>⟨rfl,va _⟩
 | d::r,h=>by
  have a:=h d vq;have b:=KD (ds:=r) λx c=>h x (vp _ c)
  constructor
  .show(d.canLay0&&PyData.canLayAll0 r)=true;rw[a.1,b.1];rfl
  .show max d.depth (PyData.depthAll r)<=n;exact Nat.max_le.mpr ⟨a.2,b.2⟩
def cU.lst(h:∀d∈ds,cU n d):cU (n+1) (.list ds):=⟨(KD h).1,Nat.succ_le_succ (KD h).2⟩
def cU.tup(h:∀d∈ds,cU n d):cU (n+1) (.tuple ds):=⟨(KD h).1,Nat.succ_le_succ (KD h).2⟩
def cU.ok(h:cU n d)(a:n<=64):SeqAt.shaped d=true:=by
 unfold SeqAt.shaped;rw[h.1,Bool.true_and];exact vG (vW h.2 a)
def LA(h:Ws.fG x=true):PyData.strOk x=true:=by
 unfold Ws.fG Ws.among at h;rw[Bool.and_eq_true]at h;have a:=of_decide_eq_true h.2;unfold PyData.strOk;rw[Array.all_eq_true_iff_forall_mem];intro c b;have:=HW.mp (a c #v[b]);exact vG ⋯
theorem zX{H:Hp}:∀(xs:L8),fW H (xs.map V.str) (xs.map PyData.str)
 | []=>.nil
 | x::r=>.cons (.str x) (zX r)
def cn.tail{c:Type}{R:Addr->c->Prop}{a:Addr}{x:c}{as:L7}{xs:List c}(h:cn R (a::as) (x::xs)):R a x/\cn R as xs:=
 ⟨h.2 0 a x rfl rfl,Nat.succ.inj h.1,λi b y d e=>h.2 (i+1) b y #v[d] #v[e]⟩
noncomputable def sv:Fm->Prop
 | .hold n=>0<=n/\n<=10^18
 | .ring x n=>Ws.fG x=true/\0<=n/\n<=10^18
 | .rise x h n=>Ws.fG x=true/\0<=h/\h<=10^18/\0<=n/\n<=10^18
 | .row ps=>⇑ps<=8/\∀x∈ps,Ws.fG x=true
 | .side ps=>⇑ps<=8/\∀x∈ps,Ws.fG x=true
 | .again k x=>0<=k/\k<=10^18/\Ws.fG x=true
structure sq(ls:L4)(ps:N1):Prop where
 l8:⇑ls<=8
 ln:∀p∈ls,Ws.fG p.1=true/\0<=p.2/\p.2<=10^18
 mJ:⇑ps<=61
 pn:∀p∈ps,Ws.fG p.1=true/\sv p.2
def Cn{n:Nat}{xs:L8}(h:∀x∈xs,Ws.fG x=true):∀d∈xs.map PyData.str,cU n d:=λd a=>by
 let⟨x,b,rfl⟩:=vK.mp a;exact(cU.str (LA (h x b))).mono (va _)
structure dt(H:Hp)(b pl pp:Addr)(las pas:L7)(ls:L4)(ps:N1):Prop where
 t:H b=some (.tup [.ref pl,.ref pp])
 l:H pl=some (.lst (las.map V.ref))
 la:cn (eU H) las ls
 p:H pp=some (.lst (pas.map V.ref))
 pa:cn (dG H) pas ps
def cu.same{H H':Hp}(s:cj H H')(h:cu H a f):cu H' a f:=by
 cases f with
 | row ps=>let⟨b,c,d⟩:=h;exact⟨b,s _ _ c,s _ _ d⟩
 | side ps=>let⟨b,c,d⟩:=h;exact⟨b,s _ _ c,s _ _ d⟩
 | hold n=>exact s _ _ h
 | ring x n=>exact s _ _ h
 | rise x g n=>exact s _ _ h
 | again x n=>exact s _ _ h
def dG.same{H H':Hp}(s:cj H H')(h:dG H a p):dG H' a p:=by
 let⟨b,c,d⟩:=h;exact⟨b,s _ _ c,cu.same s d⟩
def dt.same{H H':Hp}(B:dt H b pl pp las pas ls ps)(s:cj H H'):dt H' b pl pp las pas ls ps:=
 ⟨s _ _ B.t,s _ _ B.l,B.la.mono λa x h=>s _ _ h,s _ _ B.p,B.pa.mono λa x h=>dG.same s h⟩
open PyProof.Rows.KTD (inKeys Dat)
def iV:ft (x::xs) 0=some x:=jS (j:=0) rfl
def eN{A B:Prop}(e:b=false)(h:B):if b=true then A else B:=by rw[e];exact h
def i7{A B:Prop}(e:b=true)(h:A):if b=true then A else B:=by rw[e];exact h
def cn.cR{e:Type}{R:Addr->e->Prop}{as:L7}{xs:List e}{i:Nat}{v:V}(h:cn R as xs)(c:(as.map V.ref)[i]?=some v):∃a x,v = .ref a/\xs[i]?=some x/\R a x:=by
 rw[vv]at c;let⟨a,b,rfl⟩:=vg.mp c;have f:=(vx.mp b).1;have g:=h.1;have d:xs[i]?=some xs[i]:=vz ⋯;exact⟨a,_,rfl,d,h.2 i a _ b d⟩
theorem Y6:∀{n:Nat} {hs:L5},hs.Nodup->(∀k∈hs,0<=k/\k<(n:Int))->⇑hs<=n
 | 0,hs,_,h=>by
  cases hs with
  | nil=>exact vb _
  | cons k r=>have:=h k vq;lia
 | n+1,hs,nd,h=>by
  by_cases e:(n:Int)∈hs
  .have i:=Y6 (n:=n) (nd.erase (n:Int)) λk a=>by
    have b:=h k (List.mem_of_mem_erase a);have c:k≠(n:Int):=λz=>nd.not_mem_erase (z▸a)
    lia
   simp_all
  .have i:=Y6 (n:=n) nd λk a=>by
    have b:=h k a;have c:k≠(n:Int):=λz=>e (z▸a)
    lia
   lia
noncomputable def Fm.ns:Fm->L8
 | .row ps=>ps
 | .side ps=>ps
 | .again _ x=>[x]
 | _=>[]
noncomputable def gr(xs:L8):List (Key×V):=xs.zipIdx.map λp=>(Sum.inr p.1,.int (p.2:Nat))
def Hc(xs:L8)(x:Str):gr (xs++[x])=gr xs++[(Sum.inr x,.int (⇑xs:Nat))]:=by
 unfold gr;rw[List.zipIdx_append,vj];simp
def HA(xs:L8):⇑(gr xs)=⇑xs:=by simp[gr]
def XC(xs:L8):(gr xs).map (·.1)=xs.map Sum.inr:=by
 unfold gr;rw[uz];have e:∀(k:Nat) (xs:L8),(xs.zipIdx k).map (Function.comp (λx=>x.1) λp:Str×Nat=>((Sum.inr p.1:Key),V.int (p.2:Nat)))=xs.map Sum.inr:=λk xs=>by
  induction xs generalizing k with
  | nil=>rfl
  | cons x r ih=>simp_all
 exact e 0 xs
def LO{xs:L8}{j:Nat}{x:Str}(h:xs[j]?=some x):(gr xs)[j]?=some (Sum.inr x,.int (j:Nat)):=by
 unfold gr
 simp_all
theorem xE:∀{kvs:List (Key×V)} {j:Nat} {k:Key} {v:V},(kvs.map (·.1)).Nodup->kvs[j]?=some (k,v)->eK kvs k=some v
 | [],j,k,v,_,h=>by simp at h
 | p::r,0,k,v,_,h=>by
  simp at h;subst h;unfold eK;simp
 | p::r,j+1,k,v,nd,h=>by
  rw[uw,ug]at nd;have a:r[j]?=some (k,v):=by simpa using h
  have c:p.1≠k:=λe=>nd.1 (e▸vK.mpr ⟨(k,v),vm a,rfl⟩)
  have b:=xE nd.2 a;unfold eK at b|-;rw[List.find?_cons,vH c];exact b
def YF{xs:L8}(a:xs.Nodup){j:Nat}{x:Str}(h:xs[j]?=some x):eK (gr xs) (Sum.inr x)=some (.int (j:Nat)):=
 xE (by rw[XC];exact pairwise_map.mpr (a.imp λh e=>h (Sum.inr.inj e))) (LO h)
def YJ{kvs:List (Key×V)}{k:Key}{v:V}(h:k∉kvs.map (·.1)):putK kvs k v=kvs++[(k,v)]:=by
 unfold putK
 simp_all
noncomputable def cS:L8->Str->Nat
 | [],_=>0
 | y::r,x=>if y=x then 0 else cS r x+1
theorem Je:∀{xs:L8} {j:Nat} {x:Str},xs.Nodup->xs[j]?=some x->cS xs x=j
 | [],j,x,_,h=>by simp at h
 | y::r,0,x,_,h=>by
  simp at h;subst h;exact vd rfl
 | y::r,j+1,x,nd,h=>by
  rw[ug]at nd;have a:r[j]?=some x:=by simpa using h
  have b:y≠x:=λe=>nd.1 (e▸vm a)
  show(if y=x then 0 else cS r x+1)=j+1;rw[vc b,Je nd.2 a]
noncomputable def cb{α:Type}(ps:List (Str×α)):L8:=ps.map (·.1)
noncomputable def cK(ps:N1)(f:Fm):L6:=f.ns.map (cS (cb ps))
structure eE(ls:L4)(ps:N1):Prop where
 ln:(cb ls).Nodup
 l8:⇑ls<=8
 pn:(cb ps).Nodup
 mJ:⇑ps<=61
 f:∀(i:Nat) (p:Str×Fm),ps[i]?=some p->(∀x∈p.2.ns,∃j,j<i/\(cb ps)[j]?=some x)/\⇑p.2.ns<=8
 r:∀(i:Nat) (y x:Str) (h n:Int),ps[i]?=some (y,.rise x h n)->∃j:Nat,(cb ls)[j]?=some x
def eE.cI(W:eE ls ps)(h:ps[i]?=some p)(a:j∈cK ps p.2):j<i:=by
 let⟨x,c,rfl⟩:=vK.mp a;let⟨k,b,e⟩:=(W.f i p h).1 x c;rw[Je W.pn e];exact b
inductive df(vs:N2)(H:Hp)(Q:VK)(xk:XK):Prop
 | mk (l:Addr) (as:L7) (xs:L8) (_:vs=[.ref l]) (_:H l=some (.lst (as.map V.ref))) (_:⇑as=⇑xs) (_:(∀(i:Nat) (a:Addr) (x:Str),as[i]?=some a->xs[i]?=some x->∃r,H a=some (.tup [.str x,r]))) (_:xs.Nodup) (_:⇑xs<=100) (_:∀(d:Addr) (H':Hp),cj H H'->H d=none->H' d=some (.dK (gr xs))->Q (.ref d) H'):df vs H Q xk
def fX(H:Hp)(as:L7)(M:L1):Prop:=cn (λa ks=>H a=some (.lst (ks.map V.int))) as M
def cn.mH{c:Type}{R S:Addr->c->Prop}{as:L7}{xs:List c}(h:cn R as xs)(k:∀a∈as,∀x,R a x->S a x):cn S as xs:=⟨h.1,λi a x b d=>k a (vm b) x (h.2 i a x b d)⟩
inductive fQ(vs:N2)(H:Hp)(Q:VK)(xk:XK):Prop
 | mk (b pl pp:Addr) (las pas:L7) (ls:L4) (ps:N1) (_:vs=[.ref b]) (_:dt H b pl pp las pas ls ps) (_:eE ls ps) (_:∀(l:Addr) (as:L7) (H':Hp),cj H H'->H l=none->H' l=some (.lst (as.map V.ref))->(∀a∈as,H a=none)->fX H' as (ps.map λp=>(cK ps p.2).map λj:Nat=>(j:Int))->Q (.ref l) H'):fQ vs H Q xk
def sN(H:Hp)(bs:L7)(e:Np):Prop:=cn (λb q=>H b=some (.tup [.int q.1,.int q.2])) bs e
def me(H:Hp)(as:L7)(E:L0):Prop:=cn (λa e=>∃bs,H a=some (.lst (bs.map V.ref))/\sN H bs e) as E
def fD(E:L0)(is:L6)(k v:Int):Prop:=∃pre j post,is=pre++j::post/\(k,v)∈E.getD j []/\∀j'∈post,∀v',(k,v')∉E.getD j' []
def i3(ls:L4)(ps:N1)(E:L0)(f:Fm)(k v:Int):Prop:=fD E (cK ps f) k v\/∃x n,f = .rise x v n/\k=(cS (cb ls) x:Nat)
def dF(ls:L4)(ps:N1)(E:L0):Prop:=∀(i:Nat) (p:Str×Fm) (e:Np),ps[i]?=some p->E[i]?=some e->(e.map (·.1)).Pairwise (· < ·)/\∀k v,(k,v)∈e↔i3 ls ps E p.2 k v
inductive iy(vs:N2)(H:Hp)(Q:VK)(xk:XK):Prop
 | mk (b pl pp:Addr) (las pas:L7) (ls:L4) (ps:N1) (_:vs=[.ref b]) (_:dt H b pl pp las pas ls ps) (_:eE ls ps) (_:∀(l:Addr) (as:L7) (E:L0) (H':Hp),cj H H'->H l=none->H' l=some (.lst (as.map V.ref))->(∀a∈as,H a=none)->⇑E=⇑ps->me H' as E->dF ls ps E->Q (.ref l) H'):iy vs H Q xk
def dV(ls:L4)(ps:N1)(M:L1):Prop:=∀(i:Nat) (p:Str×Fm) (ks:L5),ps[i]?=some p->M[i]?=some ks->ks.Pairwise (· < ·)/\∀k,k∈ks↔(∃j∈cK ps p.2,k∈M.getD j [])\/∃x h n,p.2 = .rise x h n/\k=(cS (cb ls) x:Nat)
inductive iN(vs:N2)(H:Hp)(Q:VK)(xk:XK):Prop
 | mk (b pl pp:Addr) (las pas:L7) (ls:L4) (ps:N1) (_:vs=[.ref b]) (_:dt H b pl pp las pas ls ps) (_:eE ls ps) (_:∀(l:Addr) (as:L7) (M:L1) (H':Hp),cj H H'->H l=none->H' l=some (.lst (as.map V.ref))->(∀a∈as,H a=none)->⇑M=⇑ps->fX H' as M->dV ls ps M->Q (.ref l) H'):iN vs H Q xk
theorem uO:∀{a b:L5},a.Pairwise (· < ·)->b.Pairwise (· < ·)->(∀k,k∈a↔k∈b)->a=b
 | [],[],_,_,_=>rfl
 | [],y::s,_,_,h=>ub ((h y).mpr vq) (by simp)
 | x::r,[],_,_,h=>ub ((h x).mp vq) (by simp)
 | x::r,y::s,ha,hb,h=>by
  rw[vV]at ha hb;have e:x=y:=by
   rcases mem_cons.mp ((h x).mp vq)with q | q
   .exact q
   .rcases mem_cons.mp ((h y).mpr vq)with d | d
    .exact d.symm
    .have f:=hb.1 x q;have g:=ha.1 y d;lia
  subst e;congr 1;refine uO ha.2 hb.2 λk=>⟨λc=>?_,λc=>?_⟩
  .rcases mem_cons.mp ((h k).mp (vp _ c))with q | q
   .have:=ha.1 k c;lia
   .exact q
  .rcases mem_cons.mp ((h k).mpr (vp _ c))with q | q
   .have:=hb.1 k c;lia
   .exact q
def getD_map{E:L0}(j:Nat):(E.map λe=>e.map (·.1)).getD j []=(E.getD j []).map (·.1):=by
 rw[vy,vy,vv];cases E[j]?<;>rfl
def Al{k:Int}{e:Np}:k∈e.map (·.1)↔∃v,(k,v)∈e:=by
 simp_all
theorem Ah:∀{is:L6},(∃v,fD E is k v)↔∃j∈is,∃v,(k,v)∈E.getD j []
 | []=>⟨λ⟨v,b,j,a,e,_⟩=>by cases b<;>simp at e,λ⟨j,h,_⟩=>by simp at h⟩
 | i::r=>by
  have p:=Ah (E:=E) (k:=k) (is:=r);constructor
  .rintro⟨v,b,j,a,e,c,m⟩;exact⟨j,by rw[e];simp,v,c⟩
  .rintro⟨j,d,v,n⟩;by_cases q:∃j∈r,∃v,(k,v)∈E.getD j []
   .let⟨l,b,g,a,e,c,m⟩:=p.mpr q;exact⟨l,i::b,g,a,by rw[e];rfl,c,m⟩
   .rcases mem_cons.mp d with rfl | d
    .exact⟨v,[],j,r,rfl,n,λg o l f=>q ⟨g,o,l,f⟩⟩
    .exact ub ⟨j,d,v,n⟩ q
def El{ls:L4}{ps:N1}{E:L0}(s:⇑E=⇑ps)(h:dF ls ps E):dV ls ps (E.map λe=>e.map (·.1)):=λi p t q d=>by
 rw[vv]at d;let⟨e,o,rfl⟩:=vg.mp d;let⟨a,b⟩:=h i p e q o;refine⟨a,λk=>?_⟩;rw[Al];constructor
 .rintro⟨v,r⟩;rcases(b k v).mp r with z | ⟨x,n,f,g⟩
  .let⟨j,l,m,c⟩:=Ah.mp ⟨v,z⟩;exact .inl ⟨j,l,by rw[getD_map];exact Al.mpr ⟨m,c⟩⟩
  .exact .inr ⟨x,v,n,f,g⟩
 .rintro(⟨j,l,d⟩ | ⟨x,h,n,f,g⟩)
  .rw[getD_map]at d;let⟨m,c⟩:=Al.mp d;let⟨v,z⟩:=Ah.mpr ⟨j,l,m,c⟩;exact⟨v,(b k v).mpr (.inl z)⟩
  .exact⟨h,(b k h).mpr (.inr ⟨x,n,f,g⟩)⟩
def Dt(h:x∈xs):cS xs x<⇑xs:=by
 induction xs with
 | nil=>exact nomatch h
 | cons y r ih=>
  show(if y=x then 0 else cS r x+1)<⇑r+1;split
  .lia
  .rename_i hne;rcases mem_cons.mp h with e | e
   .exact ub e.symm hne
   .have:=ih e;lia
def Kj(W:eE ls ps)(s:⇑E<=⇑ps)(h:dF ls ps E):∀(i:Nat),∀q∈E.getD i [],0<=q.1/\q.1<(⇑ls:Int):=by
 intro i
 induction i using Nat.strongRecOn with
 | ind i ih=>
  intro q g;rw[vy]at g;cases e:E[i]? with
  | none=>simp_all
  | some ev=>
   rw[e]at g;have r:=(vx.mp e).1;have d:ps[i]?=some ps[i]:=vz ⋯;let⟨Z,b⟩:=h i _ ev d e;rcases(b q.1 q.2).mp g with⟨m,j,k,a,c,_⟩ | ⟨x,n,a,c⟩
   .exact ih j (W.cI d (by rw[a];simp)) _ c
   .have f:ps[i]?=some (ps[i].1,.rise x q.2 n):=by rw[d,<-a]
    let⟨j,l⟩:=W.r i _ _ _ _ f;have o:=Dt (vm l);have p:⇑(cb ls)=⇑ls:=vt _;rw[c];lia
def B8{ls:L4}{ps:N1}(W:eE ls ps){E:L0}(f:⇑E<=⇑ps)(h:dF ls ps E){i:Nat}{e:Np}(c:E[i]?=some e):⇑e<=8:=by
 have hi:=(vx.mp c).1;have a:=(h i _ e (vz ⋯) c).1;have b:=Kj W f h i;rw[vy,c]at b;have z:=wu (ks:=e.map (·.1)) (lo:=0) (hi:=⇑ls) a λk d=>by
  let⟨q,g,rfl⟩:=vK.mp d;exact b q g
 rw[vt]at z;have:=W.l8;lia
noncomputable def iF(kvs:Np)(k v:Int):Np:=if k∈kvs.map (·.1)then kvs.map (λq=>if q.1=k then(q.1,v)else q)else kvs++[(k,v)]
noncomputable def fJ(kvs more:Np):Np:=more.foldl (λacc q=>iF acc q.1 q.2) kvs
def Ig(kvs:Np)(k v:Int):putK (kvs.map i6) (Sum.inl k) (.int v)=(iF kvs k v).map i6:=by
 have e:(((kvs.map i6).any λkv=>decide (kv.1=(Sum.inl k:Key)))=true)↔k∈kvs.map (·.1):=by
  rw[List.any_map,any_eq_true];constructor
  .rintro⟨q,a,h⟩;have b:(Sum.inl q.1:Key)=Sum.inl k:=of_decide_eq_true h;exact vK.mpr ⟨q,a,Sum.inl.inj b⟩
  .intro h;let⟨q,a,rfl⟩:=vK.mp h;exact⟨q,a,vG rfl⟩
 unfold putK iF;by_cases c:k∈kvs.map (·.1)
 .rw[vd (e.mpr c),vd c,uz,uz];refine map_congr_left λq j=>?_
  show(if(Sum.inl q.1:Key)=Sum.inl k then _ else _)=i6 (if q.1=k then(q.1,v)else q);by_cases z:q.1=k
  .rw[vd z,vd (by rw[z])];rfl
  .rw[vc z,vc (λw=>z (Sum.inl.inj w))]
 .rw[vc (λw=>c (e.mp w)),vc c,vj];rfl
theorem kJ:∀(more kvs:Np),dN (kvs.map i6) (more.map i6)=(fJ kvs more).map i6
 | [],kvs=>rfl
 | q::r,kvs=>by
  show dN (putK (kvs.map i6) (Sum.inl q.1) (.int q.2)) (r.map i6)=(fJ (iF kvs q.1 q.2) r).map i6;rw[Ig,kJ r]
def Hj(kvs:Np)(k v:Int)(d:(kvs.map (·.1)).Nodup):((iF kvs k v).map (·.1)).Nodup:=by
 unfold iF;split
 .rw[uz];have e:kvs.map (Function.comp (λx=>x.1) λq=>if q.1=k then(q.1,v)else q)=kvs.map (·.1):=map_congr_left λq j=>by
   show(if q.1=k then(q.1,v)else q).1=q.1;split<;>rfl
  rw[e];exact d
 .rename_i c;rw[vj,nodup_append];exact⟨d,pairwise_singleton _ _,λa f b g e=>c (by rw[show k=b from(vo.mp g).symm,<-e];exact f)⟩
def HX:(a,b)∈iF kvs k v↔(a=k/\b=v)\/(a≠k/\(a,b)∈kvs):=by
 unfold iF;split
 .rename_i c;rw[vK];constructor
  .rintro⟨q,d,e⟩;by_cases z:q.1=k
   .rw[vd z]at e;cases e;exact .inl ⟨z,rfl⟩
   .rw[vc z]at e;subst e;exact .inr ⟨z,d⟩
  .rintro(⟨rfl,rfl⟩ | ⟨f,g⟩)
   .let⟨q,d,e⟩:=vK.mp c;exact⟨q,d,by rw[vd e,e]⟩
   .exact⟨(a,b),g,by rw[vc f]⟩
 .rename_i c;rw[vh];constructor
  .rintro(h | h)
   .exact .inr ⟨λe=>c (e▸vK.mpr ⟨(a,b),h,rfl⟩),h⟩
   .cases vo.mp h;exact .inl ⟨rfl,rfl⟩
  .rintro(⟨rfl,rfl⟩ | ⟨_,h⟩)
   .exact .inr (vo.mpr rfl)
   .exact .inl h
theorem Xy:∀{more kvs:Np},(kvs.map (·.1)).Nodup->(more.map (·.1)).Nodup->((fJ kvs more).map (·.1)).Nodup/\∀k v,(k,v)∈fJ kvs more↔(k,v)∈more\/((∀c,(k,c)∉more)/\(k,v)∈kvs)
 | [],kvs,nd,_=>⟨nd,λk v=>⟨λh=>.inr ⟨(λZ h=>nomatch h),h⟩,λh=>h.elim (λh=>nomatch h) (·.2)⟩⟩
 | q::r,kvs,nd,nm=>by
  rw[uw,ug]at nm;let⟨a,b⟩:=Xy (more:=r) (kvs:=iF kvs q.1 q.2) (Hj _ _ _ nd) nm.2;refine⟨a,λk v=>(b k v).trans ?_⟩;rw[HX];have i:∀c,(q.1,c)∉r:=λc h=>nm.1 (vK.mpr ⟨_,h,rfl⟩)
  constructor
  .rintro(h | ⟨f,⟨rfl,rfl⟩ | ⟨g,j⟩⟩)
   .exact .inl (vp _ h)
   .exact .inl vq
   .refine .inr ⟨λc d=>?_,j⟩;rcases mem_cons.mp d with e | e
    .exact g (by rw[<-e])
    .exact f c e
  .rintro(h | ⟨f,g⟩)
   .rcases mem_cons.mp h with e | e
    .refine .inr ⟨λc d=>?_,.inl ⟨by rw[<-e],by rw[<-e]⟩⟩;rw[<-e]at i;exact i c d
    .exact .inl e
   .refine .inr ⟨λc d=>f c (vp _ d),.inr ⟨λe=>?_,g⟩⟩;exact f q.2 (by rw[e];exact vq)
def Ge(b:(ms.map (·.1)).Nodup):fJ [] ms=ms:=by
 have e:∀(r a:Np),((a++r).map (·.1)).Nodup->fJ a r=a++r:=by
  intro r
  induction r with
  | nil=>intro a j;exact(append_nil _).symm
  | cons q r ih=>
   intro a b;have c:q.1∉a.map (·.1):=λh=>by
    grind
   show fJ (iF a q.1 q.2) r=_;unfold iF;rw[vc c,ih (a++[(q.1,q.2)]) (by rw[List.append_assoc];exact b),List.append_assoc];rfl
 exact e ms [] b
def GJ:fD E (is++[j]) k v↔(k,v)∈E.getD j []\/((∀g,(k,g)∉E.getD j [])/\fD E is k v):=by
 constructor
 .rintro⟨c,i,a,e,l,f⟩;rcases List.eq_nil_or_concat a with rfl | ⟨b,x,rfl⟩
  .simp_all
  .have o:is++[j]=(c++i::b)++[x]:=by rw[e];simp
   have n:=List.append_inj' o rfl;have p:j=x:=by simpa using n.2
   subst p;exact .inr ⟨f j (by simp),c,i,b,n.1,l,λm d=>f m (by simp[d])⟩
 .rintro(h | ⟨l,c,i,a,e,f,q⟩)
  .exact⟨is,j,[],rfl,h,(λZ h=>nomatch h)⟩
  .refine⟨c,i,a++[j],by rw[e];simp,f,λm d g=>?_⟩;rcases vh.mp d with z | z
   .exact q m z g
   .rw[vo.mp z];exact l g
def Ci(h:∀j∈is,E.getD j []=E'.getD j []):fD E is k v->fD E' is k v:=by
 rintro⟨c,j,b,e,f,g⟩;refine⟨c,j,b,e,by rw[<-h j (by rw[e];simp)];exact f,λd a=>?_⟩;rw[<-h d (by rw[e];simp[a])];exact g d a
def dF.snoc{ls:L4}{ps:N1}(W:eE ls ps){E:L0}{p:Str×Fm}{e:Np}(h:dF ls ps E)(u:ps[⇑E]?=some p)(o:(e.map (·.1)).Pairwise (· < ·))
  (r:∀k v,(k,v)∈e↔i3 ls ps E p.2 k v):dF ls ps (E++[e]):=λi q f g c=>by
 have t:i<=⇑E:=by
  have:=(vx.mp c).1;rw[vn]at this;exact Nat.le_of_lt_succ this
 have ext:∀j∈cK ps q.2,E.getD j []=(E++[e]).getD j []:=λj l=>(getD_snoc (by have:=W.cI g l;lia)).symm
 have d:∀k v,i3 ls ps E q.2 k v↔i3 ls ps (E++[e]) q.2 k v:=λk v=>by
  unfold i3;exact⟨λh=>h.imp (Ci ext) id,λh=>h.imp (Ci λj l=>(ext j l).symm) id⟩
 by_cases s:i<⇑E
 .rw[vB s]at c;let⟨a,b⟩:=h i q f g c;exact⟨a,λk v=>(b k v).trans (d k v)⟩
 .have n:i=⇑E:=⋯
  subst n;rw[vC (vb _),Nat.sub_self]at c;have m:e=f:=by simpa using c
  subst m;rw[u]at g;cases g;exact⟨o,λk v=>(r k v).trans (d k v)⟩
def Ce{H:Hp}(h:cu H a f)(d:∀x v n,f≠.rise x v n):∃k xs,H a=some (.tup (.str k::xs))/\decide (k=("raise" : Str))=false:=by
 cases f with
 | hold n=>exact⟨_,_,h,by trivial⟩
 | ring x n=>exact⟨_,_,h,by trivial⟩
 | rise x v n=>exact ub rfl (d x v n)
 | row ps=>let⟨b,c,j⟩:=h;exact⟨_,_,c,by trivial⟩
 | side ps=>let⟨b,c,j⟩:=h;exact⟨_,_,c,by trivial⟩
 | again k x=>exact⟨_,_,h,by trivial⟩
noncomputable def rB(ls:L4):Fm->List (Int×Int)
 | .rise x h _=>[((cS (cb ls) x:Nat),h)]
 | _=>[]
def Lg(a:∀x v n,f≠.rise x v n):rB ls f=[]:=by
 cases f with
 | rise x v n=>exact ub rfl (a x v n)
 | _=>rfl
def Am:(k,v)∈rB ls f↔∃x n,f = .rise x v n/\k=(cS (cb ls) x:Nat):=by
 cases f with
 | rise x h n=>
  constructor
  .intro a;cases vo.mp a;exact⟨x,n,rfl,rfl⟩
  .rintro⟨c,b,e,rfl⟩;injection e with e1 e2 e3;subst e1 e2;exact vo.mpr rfl
 | _=>exact⟨(λh=>nomatch h),λ⟨_,_,e,_⟩=>nomatch e⟩
def Nb(f:Fm):cK ps f=[]\/rB ls f=[]:=by
 cases f with
 | rise x h n=>exact .inl rfl
 | _=>exact .inr rfl
def Nc(f:Fm):((rB ls f).map (·.1)).Nodup:=by
 cases f with
 | rise x h n=>exact pairwise_singleton _ _
 | _=>exact .nil
inductive eX(vs:N2)(H:Hp)(Q:VK)(xk:XK):Prop
 | mk (r:Int) (l ll:Addr) (as las:L7) (M:L1) (_:vs=[.int r,.ref l,.ref ll]) (_:H l=some (.lst (as.map V.ref))) (_:fX H as M) (_:(∀ks∈M,ks≠[])) (_:⇑M<=8) (_:H ll=some (.lst (las.map V.ref))) (_:(∀k:Int,⇑(M.filter λks=>decide (k∈ks))<=1)) (_:∀H',cj H H'->Q .de H'):eX vs H Q xk
noncomputable def iB:Fm->L5->Int->Prop
 | .hold n,_,g=>g=n
 | .ring _ n,_,g=>g=n
 | .rise _ _ n,_,g=>g=n
 | .row _,gs,g=>g=gs.sum
 | .side _,gs,g=>g∈gs/\∀x∈gs,x<=g
 | .again k _,gs,g=>∃y,gs.head?=some y/\g=k*y
noncomputable def iC:Fm->L5->Prop
 | .side _,gs=>gs≠[]
 | .again k _,gs=>∃y r,gs=y::r/\0<=k/\k<=10^18/\0<=y/\y<=10^60
 | _,_=>True
inductive fu(vs:N2)(H:Hp)(Q:VK)(xk:XK):Prop
 | mk (a l:Addr) (f:Fm) (gs:L5) (_:vs=[.ref a,.ref l]) (_:cu H a f) (_:H l=some (.lst (gs.map V.int))) (_:iC f gs) (_:∀g,iB f gs g->Q (.int g) H):fu vs H Q xk
structure oy(ls:L4)(ps:N1)(gs:L5)(hs:L1):Prop where
 w:eE ls ps
 gl:⇑gs=⇑ps
 gb:∀i,i<⇑ps->0<=gs∘i/\gs∘i<=10^60
 mv:∀M:L1,⇑M=⇑ps->dV ls ps M->∀i,i<⇑ps->M.getD i []=hs.getD i []
 ln:∀(i:Nat) (p:Str×Fm),ps[i]?=some p->iC p.2 ((cK ps p.2).map λj=>gs∘j)/\∀g,iB p.2 ((cK ps p.2).map λj=>gs∘j) g->g=gs∘i
 sd:∀(i:Nat) (p:Str×Fm) (qs:L8),ps[i]?=some p->p.2 = .side qs->(∀j∈cK ps p.2,hs.getD j []≠[])/\∀k:Int,⇑(((cK ps p.2).map λj=>hs.getD j []).filter λks=>decide (k∈ks))<=1
inductive gy(vs:N2)(H:Hp)(Q:VK)(xk:XK):Prop
 | mk (b pl pp:Addr) (las pas:L7) (ls:L4) (ps:N1) (gs:L5) (hs:L1) (_:vs=[.ref b]) (_:dt H b pl pp las pas ls ps) (_:oy ls ps gs hs) (_:∀(l:Addr) (H':Hp),cj H H'->H l=none->H' l=some (.lst (gs.map V.int))->Q (.ref l) H'):gy vs H Q xk
def any_empty{M:L1}(h:∀ks∈M,ks≠[]):(M.any λks=>decide (ks=[]))=false:=by
 simp_all
def Lc{gs:L5}{i:Nat}(h:i<⇑gs):gs.take (i+1)=gs.take i++[gs∘i]:=by
 simp_all
def Be{gs:L5}{i j:Nat}(hi:i<=⇑gs)(a:j<i):ft ((gs.take i).map V.int) (j:Int)=some (.int (gs∘j)):=by
 refine jS ?_;rw[vv,List.getElem?_take,vd a,vy,vz ⋯];rfl
theorem C0{H:Hp}:∀{xs:N2} {ds:List PyData},fW H xs ds->∀{i:Nat},i<⇑ds->∃x d,xs[i]?=some x/\ds[i]?=some d/\DV H x d
 | _,_,.nil,i,h=>ub h (Nat.not_lt_zero _)
 | _,_,.cons a r,0,_=>⟨_,_,rfl,rfl,a⟩
 | _,_,.cons a r,i+1,h=>by
  let⟨x,d,b,c,e⟩:=C0 r (i:=i) #v[h];exact⟨x,d,#v[b],#v[c],e⟩
theorem Ki{H:Hp}{ys:N2}{es:List PyData}(h:fW H ys es):∀{xs:N2} {ds:List PyData},fW H xs ds->fW H (xs++ys) (ds++es)
 | _,_,.nil=>h
 | _,_,.cons a r=>.cons a (Ki h r)
def jS{xs:N2}{i:Nat}{x:V}(h:xs[i]?=some x):ft xs (0+(i:Int))=some x:=by
 let⟨a,rfl⟩:=vx.mp h;rw[ut];unfold ft;simp[a,lQ]
theorem Di:∀{a b:Np},(a.map (·.1)).Pairwise (· < ·)->(b.map (·.1)).Pairwise (· < ·)->(∀k v,(k,v)∈a↔(k,v)∈b)->a=b
 | [],[],_,_,_=>rfl
 | [],y::s,_,_,h=>ub ((h y.1 y.2).mpr vq) (by simp)
 | x::r,[],_,_,h=>ub ((h x.1 x.2).mp vq) (by simp)
 | x::r,y::s,ha,hb,h=>by
  rw[uw,vV]at ha hb;have g:∀q∈r,x.1<q.1:=λq d=>ha.1 _ (vK.mpr ⟨q,d,rfl⟩)
  have i:∀q∈s,y.1<q.1:=λq d=>hb.1 _ (vK.mpr ⟨q,d,rfl⟩)
  have e:x=y:=by
   rcases mem_cons.mp ((h x.1 x.2).mp vq)with q | q
   .exact q
   .rcases mem_cons.mp ((h y.1 y.2).mpr vq)with f | f
    .exact f.symm
    .have j:=i _ q;have l:=g _ f;simp only at j l;lia
  subst e;rw[Di ha.2 hb.2 λk v=>?_];constructor
  .intro c;rcases mem_cons.mp ((h k v).mp (vp _ c))with q | q
   .have:=g _ c;rw[<-q]at this;simp only at this;lia
   .exact q
  .intro c;rcases mem_cons.mp ((h k v).mpr (vp _ c))with q | q
   .have:=i _ c;rw[<-q]at this;simp only at this;lia
   .exact q
def LJ(W:eE ls ps)(m:⇑M=⇑ps)(h:dV ls ps M):∀(i:Nat),∀k∈M.getD i [],0<=k/\k<(⇑ls:Int):=by
 intro i
 induction i using Nat.strongRecOn with
 | ind i ih=>
  intro k d;rw[vy]at d;cases e:M[i]? with
  | none=>simp_all
  | some ks=>
   rw[e]at d;have l:=(vx.mp e).1;have c:ps[i]?=some ps[i]:=vz ⋯;let⟨Z,b⟩:=h i _ ks c e;rcases(b k).mp d with⟨j,a,f⟩ | ⟨x,v,n,g,rfl⟩
   .exact ih j (W.cI c a) k f
   .let⟨j,a⟩:=W.r i (ps[i]).1 x v n (by rw[c,<-g]);rw[Je W.ln a];have:=(vx.mp a).1;unfold cb at this
    simp_all
def LK{ls:L4}{ps:N1}(W:eE ls ps){M:L1}(d:⇑M=⇑ps)(h:dV ls ps M){i:Nat}{ks:L5}(c:M[i]?=some ks):⇑ks<=8:=by
 have hi:=(vx.mp c).1;have a:=(h i _ ks (vz ⋯) c).1;have b:=LJ W d h i;rw[vy,c]at b;have z:=wu (ks:=ks) (lo:=0) (hi:=⇑ls) a b;have:=W.l8;lia
def cu.keep{H H':Hp}(k:∀c xs,H c=some (.tup xs)->H' c=some (.tup xs))(h:cu H a f):cu H' a f:=by
 cases f with
 | row ps=>let⟨c,b,d⟩:=h;exact⟨c,k _ _ b,k _ _ d⟩
 | side ps=>let⟨c,b,d⟩:=h;exact⟨c,k _ _ b,k _ _ d⟩
 | hold n=>exact k _ _ h
 | ring x n=>exact k _ _ h
 | rise x g n=>exact k _ _ h
 | again x n=>exact k _ _ h
def dG.keep{H H':Hp}(k:∀c xs,H c=some (.tup xs)->H' c=some (.tup xs))(h:dG H a p):dG H' a p:=by
 let⟨b,d,e⟩:=h;exact⟨b,k _ _ d,cu.keep k e⟩
def GS(a:0<=i)(h:xs[i.toNat]?=some c):ft xs i=some c:=by
 have q:∀k:Nat,xs[k]?=some c->ft xs (k:Int)=some c:=λk d=>by
  let⟨b,rfl⟩:=vx.mp d;unfold ft lQ;simp[b]
 have:=q i.toNat h;rw[Int.toNat_of_nonneg a]at this;exact this
def E2{n:Nat}{k:Int}(a:0<=k)(c:k<n):lQ n k=some k.toNat:=by
 have b:∀j:Nat,j<n->lQ n (j:Int)=some j:=λj h=>by
  unfold lQ;simp[h]
 have q:=b k.toNat ⋯;rw[Int.toNat_of_nonneg a]at q;exact q
noncomputable abbrev Pc:=Nat×Int×Int
noncomputable abbrev m9:=Nat×Int×Int×Option Int
noncomputable def dn(gs:L5):L6->Int->List Pc
 | [],_=>[]
 | j::r,b=>(j,1,b)::dn gs r (b+gs∘j)
noncomputable def fh(gs:L5)(f:Fm)(is:L6):List Pc:=
 match f with
 | .again k _=>match is with
  | []=>[]
  | j::_=>(j,1,0)::(if 1<k then[(j,k-1,gs∘j)]else[])
 | .row _=>dn gs is 0
 | _=>is.map λj=>(j,1,0)
def hI(H:Hp)(as:L7)(qs:List Pc):Prop:=cn (λa q=>H a=some (.tup [.int (q.1:Nat),.int q.2.1,.int q.2.2])) as qs
def nG(H:Hp)(as:L7)(qss:List (List Pc)):Prop:=cn (λa qs=>∃bs,H a=some (.lst (bs.map V.ref))/\hI H bs qs) as qss
inductive fv(vs:N2)(H:Hp)(Q:VK)(xk:XK):Prop
 | mk (a l s:Addr) (f:Fm) (is:L6) (gs:L5) (_:vs=[.ref a,.ref l,.ref s]) (_:cu H a f) (_:H l=some (.lst ((is.map λj:Nat=>(j:Int)).map V.int))) (_:H s=some (.lst (gs.map V.int))) (_:⇑is<=8) (_:(∀j∈is,j<⇑gs)) (_:(∀k x,f = .again k x->is≠[])) (_:∀(p:Addr) (as:L7) (H':Hp),cj H H'->H p=none->H' p=some (.lst (as.map V.ref))->hI H' as (fh gs f is)->Q (.ref p) H'):fv vs H Q xk
inductive fw(vs:N2)(H:Hp)(Q:VK)(xk:XK):Prop
 | mk (b pl pp s:Addr) (las pas:L7) (ls:L4) (ps:N1) (gs:L5) (_:vs=[.ref b,.ref s]) (_:dt H b pl pp las pas ls ps) (_:eE ls ps) (_:H s=some (.lst (gs.map V.int))) (_:⇑gs=⇑ps) (_:∀(l:Addr) (as:L7) (H':Hp),cj H H'->H l=none->H' l=some (.lst (as.map V.ref))->nG H' as (ps.map λp=>fh gs p.2 (cK ps p.2))->(∀a∈as,H a=none)->Q (.ref l) H'):fw vs H Q xk
noncomputable def ov(gs:L5)(t:Int)(q:Pc):Int:=if q.2.1<(t-q.2.2)/gs∘q.1 then q.2.1 else(t-q.2.2)/gs∘q.1
noncomputable def dD(gs:L5)(t:Int)(q:Pc):Option m9:=
 if q.2.2<=t then some (q.1,q.2.2,ov gs t q,if ov gs t q<q.2.1 then some (t-q.2.2-ov gs t q*gs∘q.1)else none)else none
noncomputable def dS(gs:L5)(t:Int)(qs:List Pc):List m9:=qs.filterMap (dD gs t)
noncomputable def oR:Option Int->V
 | none=>.de
 | some r=>.int r
def nF(H:Hp)(as:L7)(ys:List m9):Prop:=cn (λa y=>H a=some (.tup [.int (y.1:Nat),.int y.2.1,.int y.2.2.1,oR y.2.2.2])) as ys
def mP(gs:L5)(q:Pc):Prop:=q.1<⇑gs/\1<=gs∘q.1/\gs∘q.1<=10^60/\1<=q.2.1/\q.2.1<=10^18/\0<=q.2.2/\q.2.2<=10^62
inductive eQ(vs:N2)(H:Hp)(Q:VK)(xk:XK):Prop
 | mk (l s:Addr) (t:Int) (bs:L7) (qs:List Pc) (gs:L5) (_:vs=[.ref l,.ref s,.int t]) (_:H l=some (.lst (bs.map V.ref))) (_:hI H bs qs) (_:H s=some (.lst (gs.map V.int))) (_:⇑qs<=8) (_:(∀q∈qs,mP gs q)) (_:0<=t) (_:t<=10^62) (_:∀(p:Addr) (as:L7) (H':Hp),cj H H'->H p=none->H' p=some (.lst (as.map V.ref))->nF H' as (dS gs t qs)->Q (.ref p) H'):eQ vs H Q xk
def fB(H:Hp)(as:L7)(xs:L3):Prop:=cn (λa x=>H a=some (.tup [.int (x.1:Nat),.int x.2])) as xs
noncomputable def fx(gs:L5)(y:m9):L3:=(if 0<y.2.2.1 then[(y.1,gs∘y.1)]else[])++(match y.2.2.2 with | some r=>[(y.1,r)] | none=>[])
noncomputable def fV(gs:L5)(t:Int)(qs:List Pc):L3:=(dS gs t qs).flatMap (fx gs)
inductive g9(vs:N2)(H:Hp)(Q:VK)(xk:XK):Prop
 | mk (l s:Addr) (t:Int) (bs:L7) (qs:List Pc) (gs:L5) (_:vs=[.ref l,.ref s,.int t]) (_:H l=some (.lst (bs.map V.ref))) (_:hI H bs qs) (_:H s=some (.lst (gs.map V.int))) (_:⇑qs<=8) (_:(∀q∈qs,mP gs q)) (_:0<=t) (_:t<=10^62) (_:∀(p:Addr) (as:L7) (H':Hp),cj H H'->H p=none->H' p=some (.lst (as.map V.ref))->fB H' as (fV gs t qs)->Q (.ref p) H'):g9 vs H Q xk
noncomputable def gw(pc:Nat->List Pc)(gs:L5):Nat->Nat->Int->L3
 | 0,i,t=>[(i,t)]
 | n+1,i,t=>if gs∘i<=t\/pc i=[]then[(i,t)]else(fV gs t (pc i)).flatMap λx=>gw pc gs n x.1 x.2
noncomputable def fL(pc:Nat->List Pc)(gs:L5):Nat->Nat->Int->Nat
 | 0,_,_=>1
 | n+1,i,t=>if gs∘i<=t\/pc i=[]then 1 else 1+((fV gs t (pc i)).map λx=>fL pc gs n x.1 x.2).sum
noncomputable def cT(ps:N1)(gs:L5)(i:Nat):List Pc:=match ps[i]? with | some p=>fh gs p.2 (cK ps p.2) | none=>[]
section
variable{gs:L5}{t:Int}
def Xx(h:q∈dn gs is b):q.1∈is/\q.2.1=1:=by
 induction is generalizing b with
 | nil=>exact nomatch h
 | cons j r ih=>
  rcases mem_cons.mp h with rfl | h
  .exact⟨vq,rfl⟩
  .let⟨a,b⟩:=ih h;exact⟨vp _ a,b⟩
def GZ(is:L6)(b:Int):⇑(dn gs is b)=⇑is:=by
 induction is generalizing b with
 | nil=>rfl
 | cons j r ih=>rw[dn,vQ,vQ,ih]
def YL(d:∀j∈is,0<=gs∘j/\gs∘j<=10^60)(h:q∈dn gs is b):b<=q.2.2/\q.2.2<=b+10^60*⇑is:=by
 induction is generalizing b with
 | nil=>exact nomatch h
 | cons j r ih=>
  have g:=d j vq;rw[vQ];rcases mem_cons.mp h with rfl | h
  .have:(0:Int)<=10^60*((⇑r+1:Nat):Int):=Int.mul_nonneg nofun ⋯;exact⟨vA _,by show b<=_;lia⟩
  .let⟨a,c⟩:=ih (λk e=>d k (vp _ e)) h;refine⟨⋯,?_⟩;rw[show((⇑r+1:Nat):Int)=(⇑r:Int)+1 by lia,Int.mul_add];lia
def Cw(h:q∈fh gs f is):q.1∈is:=by
 unfold fh at h;split at h
 .split at h
  .exact nomatch h
  .rcases mem_cons.mp h with rfl | h
   .exact vq
   .split at h
    .rw[vo.mp h];exact vq
    .exact nomatch h
 .exact(Xx h).1
 .let⟨j,a,rfl⟩:=vK.mp h;exact a
def Cu(a:⇑is<=8):⇑(fh gs f is)<=8:=by
 unfold fh;split
 .split
  .exact va _
  .split<;>simp
 .rw[GZ];exact a
 simp_all
def Ks(h:y∈dS gs t qs):∃q∈qs,dD gs t q=some y:=mem_filterMap.mp h
def Dy(a:List Pc):⇑(dS gs t a)<=⇑a:=List.length_filterMap_le _ _
def xj(h:dD gs t q=some y):y.1=q.1:=by
 unfold dD at h;split at h
 .cases h;rfl
 .cases h
def DA(h:x∈fV gs t qs):∃q∈qs,x.1=q.1:=by
 let⟨y,c,a⟩:=mem_flatMap.mp h;let⟨q,b,e⟩:=Ks c;refine⟨q,b,?_⟩;rw[<-xj e];unfold fx at a;rcases vh.mp a with z | z
 .split at z
  .rw[vo.mp z]
  .exact nomatch z
 .split at z
  .rw[vo.mp z]
  .exact nomatch z
def HS(y:m9):⇑(fx gs y)<=2:=by
 unfold fx;rw[vn];have a:⇑(if 0<y.2.2.1 then[(y.1,gs∘y.1)]else[])<=1:=by split<;>simp
 have b:⇑(match y.2.2.2 with | some r=>[(y.1,r)] | none=>[]:L3)<=1:=by split<;>simp
 lia
def Li(a:List Pc):⇑(fV gs t a)<=2*⇑a:=by
 have h:∀b:List m9,⇑(b.flatMap (fx gs))<=2*⇑b:=λb=>by
  induction b with
  | nil=>exact va _
  | cons y r ih=>
   rw[flatMap_cons,vn,vQ];have:=HS (gs:=gs) y;lia
 have:=h (dS gs t a);have:=Dy (gs:=gs) (t:=t) a;unfold fV;lia
end
section
variable{ls:L4}{ps:N1}{gs:L5}
def A2(W:eE ls ps)(h:q∈cT ps gs i):q.1<i:=by
 unfold cT at h;split at h
 .rename_i p hp;exact W.cI hp (Cw h)
 .exact nomatch h
def zr(W:eE ls ps)(h:x∈fV gs t (cT ps gs i)):x.1<i:=by
 let⟨q,a,e⟩:=DA h;rw[e];exact A2 W a
theorem Qp{a c:Type}{f g:a->List c}:∀{l:List a},(∀x∈l,f x=g x)->l.flatMap f=l.flatMap g
 | [],_=>rfl
 | x::r,h=>by rw[flatMap_cons,flatMap_cons,h x vq,Qp λy b=>h y (vp _ b)]
theorem xu(W:eE ls ps):∀{n m i:Nat} {t:Int},i<n->i<m->gw (cT ps gs) gs n i t=gw (cT ps gs) gs m i t
 | 0,_,_,_,h,_=>ub h (Nat.not_lt_zero _)
 | _,0,_,_,_,h=>ub h (Nat.not_lt_zero _)
 | n+1,m+1,i,t,h1,h2=>by
  unfold gw;split
  .rfl
  .exact Qp λx a=>by
    have:=zr W a;exact xu W ⋯ ⋯
theorem W5(W:eE ls ps):∀{n m i:Nat} {t:Int},i<n->i<m->fL (cT ps gs) gs n i t=fL (cT ps gs) gs m i t
 | 0,_,_,_,h,_=>ub h (Nat.not_lt_zero _)
 | _,0,_,_,_,h=>ub h (Nat.not_lt_zero _)
 | n+1,m+1,i,t,h1,h2=>by
  unfold fL;split
  .rfl
  .congr 2;exact map_congr_left λx a=>by
    have:=zr W a;exact W5 W ⋯ ⋯
noncomputable def reach(ps:N1)(gs:L5)(i:Nat)(t:Int):L3:=gw (cT ps gs) gs (i+1) i t
noncomputable def nodes(ps:N1)(gs:L5)(i:Nat)(t:Int):Nat:=fL (cT ps gs) gs (i+1) i t
def zn(h:gs∘i<=t\/cT ps gs i=[]):reach ps gs i t=[(i,t)]:=by
 unfold reach gw;rw[vd h]
def yR(W:eE ls ps)(h:¬(gs∘i<=t\/cT ps gs i=[])):reach ps gs i t=(fV gs t (cT ps gs i)).flatMap λx=>reach ps gs x.1 x.2:=by
 unfold reach;rw[gw,vc h];exact Qp λx a=>by
  have:=zr W a;exact xu W ⋯ ⋯
def kL(h:gs∘i<=t\/cT ps gs i=[]):nodes ps gs i t=1:=by
 unfold nodes fL;rw[vd h]
def W6(W:eE ls ps)(h:¬(gs∘i<=t\/cT ps gs i=[])):nodes ps gs i t=1+((fV gs t (cT ps gs i)).map λx=>nodes ps gs x.1 x.2).sum:=by
 unfold nodes;rw[fL,vc h];congr 2;exact map_congr_left λx a=>by
  have:=zr W a;exact W5 W ⋯ ⋯
def XA(i:Nat)(t:Int):1<=nodes ps gs i t:=by
 unfold nodes fL;split<;>lia
end
section
variable{gs:L5}{t:Int}
noncomputable def wq(gs:L5)(t:Int)(q:Pc):L3:=match dD gs t q with | some y=>fx gs y | none=>[]
def Ds:fV gs t []=[]:=rfl
def ZE(q:Pc)(a:List Pc):fV gs t (q::a)=wq gs t q++fV gs t a:=by
 unfold fV dS wq;rw[filterMap_cons];cases dD gs t q with
 | none=>rfl
 | some y=>rfl
def LG(h:t<q.2.2):wq gs t q=[]:=by
 unfold wq dD;rw[vc ⋯]
def uP(d:1<=gs∘j)(h:b<=t):wq gs t (j,1,b)=if gs∘j<=t-b then[(j,gs∘j)]else[(j,t-b)]:=by
 have c:wq gs t (j,1,b)=fx gs (j,b,ov gs t (j,1,b),if ov gs t (j,1,b)<1 then some (t-b-ov gs t (j,1,b)*gs∘j)else none):=by
  unfold wq dD;rw[vd (show b<=t from h)]
 rw[c];generalize a:gs∘j=g at d|-;have e:ov gs t (j,1,b)=if g<=t-b then 1 else 0:=by
  show(if(1:Int)<(t-b)/gs∘j then(1:Int)else(t-b)/gs∘j)=_;rw[a];by_cases z:g<=t-b
  .rw[vd z];have:1<=(t-b)/g:=by
    rw[Int.le_ediv_iff_mul_le ⋯];lia
   split<;>lia
  .rw[vc z];have:(t-b)/g=0:=Int.ediv_eq_zero_of_lt ⋯ ⋯;rw[this];rfl
 by_cases z:g<=t-b
 .rw[vd z]at e;rw[vd z,e];unfold fx
  simp_all
 .rw[vc z]at e;rw[vc z,e];unfold fx;simp
def Dr(h:q.2.2<=t):wq gs t q=(if 0<ov gs t q then[(q.1,gs∘q.1)]else[])++(if ov gs t q<q.2.1 then[(q.1,t-q.2.2-ov gs t q*gs∘q.1)]else[]):=by
 unfold wq dD;rw[vd h];show fx gs _=_;unfold fx;congr 1;show(match(if ov gs t q<q.2.1 then some (t-q.2.2-ov gs t q*gs∘q.1)else none)with | some r=>[(q.1,r)] | none=>[])=_;split<;>rename_i e<;>split at e
 .cases e;rw[vd (by assumption)]
 .cases e
 .cases e
 .rw[vc (by assumption)]
theorem KG:∀{qs:List Pc},(∀q∈qs,t<q.2.2)->fV gs t qs=[]
 | [],_=>rfl
 | q::r,h=>by rw[ZE,LG (h q vq),KG λq a=>h q (vp _ a)];rfl
def xv(a:∀j∈is,0<=gs∘j/\gs∘j<=10^60)(h:t<b):fV gs t (dn gs is b)=[]:=
 KG λq c=>by have:=(YL a c).1;lia
def CL(a:∀k∈j::r,1<=gs∘k/\gs∘k<=10^60)(h:b<=t):fV gs t (dn gs (j::r) b)=if gs∘j<=t-b then(j,gs∘j)::fV gs t (dn gs r (b+gs∘j))else[(j,t-b)]:=by
 have g:=a j vq;rw[dn,ZE,uP g.1 h];split
 .rfl
 .rw[xv (λk c=>by have:=a k (vp _ c);lia) ⋯];rfl
theorem Ew{a:Type}{f g:a->Nat}:∀{l:List a},(∀x∈l,f x<=g x)->(l.map f).sum<=(l.map g).sum
 | [],_=>vb _
 | x::r,h=>by
  rw[uw,uw,sum_cons,sum_cons];have:=h x vq;have:=Ew (l:=r) λy b=>h y (vp _ b)
  lia
theorem C5{N:Nat×Int->Nat}:∀{is:L6} {b:Int},(∀k∈is,1<=gs∘k/\gs∘k<=10^60)->(∀k∈is,N (k,gs∘k)=1)->(∀k∈is,∀r,0<=r->N (k,r)<=B)->((fV gs t (dn gs is b)).map N).sum<=⇑is+B
 | [],b,_,_,_=>va _
 | j::r,b,hg,h1,h2=>by
  by_cases h:b<=t
  .rw[CL hg h];split
   .rw[uw,sum_cons,h1 j vq,vQ];have:=C5 (N:=N) (B:=B) (is:=r) (b:=b+gs∘j) (λk a=>hg k (vp _ a)) (λk a=>h1 k (vp _ a)) λk a=>h2 k (vp _ a)
    lia
   .have:=h2 j vq (t-b) ⋯;simp;lia
  .rw[xv (λk a=>by have:=hg k a;lia) ⋯];exact va _
def Cp{is:L6}(a:∀k∈is,1<=gs∘k)(c:0<=t):fV gs t (is.map λj=>(j,1,0))=is.map λj=>if gs∘j<=t then(j,gs∘j)else(j,t):=by
 induction is with
 | nil=>rfl
 | cons j r ih=>
  rw[uw,ZE,uP (a j vq) c,ih λk b=>a k (vp _ b),uw,Int.sub_zero];split<;>rfl
def Gr{N:Nat×Int->Nat}(l:1<=gs∘j)(f:0<=t)(b:N (j,gs∘j)=1)(d:∀r,0<=r->N (j,r)<=B) :
  ((fV gs t ((j,1,0)::(if 1<k then[(j,k-1,gs∘j)]else[]))).map N).sum<=2+B:=by
 rw[ZE,uP l f,Int.sub_zero,vj,sum_append];by_cases z:gs∘j<=t
 .rw[vd z];have a:((fV gs t (if 1<k then[(j,k-1,gs∘j)]else[])).map N).sum<=1+B:=by
   split
   .rw[ZE,Ds,append_nil,Dr (show gs∘j<=t from z),vj,sum_append];have g:(((if 0<ov gs t (j,k-1,gs∘j)then[(j,gs∘j)]else[]):L3).map N).sum<=1:=by
     split
     .simp;rw[<-vy,b];exact vb _
     .simp
    have h:(((if ov gs t (j,k-1,gs∘j)<k-1 then[(j,t-gs∘j-ov gs t (j,k-1,gs∘j)*gs∘j)]else[]):L3).map N).sum<=B:=by
     split
     .have m:ov gs t (j,k-1,gs∘j)=(t-gs∘j)/gs∘j:=by
       show(if k-1<(t-gs∘j)/gs∘j then k-1 else(t-gs∘j)/gs∘j)=_;rename_i c;have i:(if k-1<(t-gs∘j)/gs∘j then k-1 else(t-gs∘j)/gs∘j)<k-1:=c;split at i
       .lia
       .rename_i z;rw[vc z]
      have:=d (t-gs∘j-ov gs t (j,k-1,gs∘j)*gs∘j) (by
       rw[m];have:=Int.ediv_mul_le (t-gs∘j) (show gs∘j≠0 by lia);lia)
      simp;exact this
     .simp
    have o:((if 0<ov gs t (j,k-1,gs∘j)then[((j,k-1,gs∘j):Pc).1].map λa=>(a,gs∘a)else[]):L3)=if 0<ov gs t (j,k-1,gs∘j)then[(j,gs∘j)]else[]:=rfl
    exact Nat.add_le_add g h
   .exact va _
  have:(([(j,gs∘j)]:L3).map N).sum=1:=by
   simp;rw[<-vy,b]
  lia
 .rw[vc z];have e:fV gs t (if 1<k then[(j,k-1,gs∘j)]else[])=[]:=by
   split
   .exact KG λq n=>by rw[vo.mp n];show t<gs∘j;lia
   .rfl
  rw[e];have:=d t f;simp;lia
end
def len_sub{a b:L5}(c:a.Nodup)(f:∀x∈a,x∈b):⇑a<=⇑b:=by
 induction a generalizing b with
 | nil=>exact va _
 | cons x r ih=>
  rw[ug]at c;have g:=f x vq;have:=ih (b:=b.erase x) c.2 λy h=>by
   have d:y≠x:=λe=>c.1 (e▸h)
   exact(List.mem_erase_of_ne d).mpr (f y (vp _ h))
  rw[List.length_erase_of_mem g]at this;have:0<⇑b:=List.length_pos_of_mem g;rw[vQ];lia
section
variable{ls:L4}{ps:N1}{gs:L5}{hs:L1}
def W0(S:oy ls ps gs hs)(a:⇑hs=⇑ps)(hi:i<⇑ps):hs[i]?=some (hs.getD i []):=by
 simp_all
def Nh(S:oy ls ps gs hs)(e:⇑hs=⇑ps)(M:dV ls ps hs){i:Nat}{p:Str×Fm}(c:ps[i]?=some p){j:Nat}(d:j∈cK ps p.2):⇑(hs.getD j [])<=⇑(hs.getD i []):=by
 have f:=(vx.mp c).1;have l:=S.w.cI c d;let⟨Z,b⟩:=M i p _ c (W0 S e f);let⟨a,Z⟩:=M j _ _ (vz (show j<⇑ps by lia)) (W0 S e ⋯);exact len_sub (a.imp λh=>⋯) λk g=>(b k).mpr (.inl ⟨j,d,g⟩)
def I0(S:oy ls ps gs hs)(v:⇑hs=⇑ps)(M:dV ls ps hs){i:Nat}{p:Str×Fm}{x:L8}(f:ps[i]?=some p)(e:p.2 = .side x):((cK ps p.2).map λj=>⇑(hs.getD j [])).sum<=⇑(hs.getD i []):=by
 have A:=(vx.mp f).1;let⟨Z,t⟩:=S.sd i p x f e;let⟨Z,b⟩:=M i p _ f (W0 S v A);have C:=λj=>S.w.cI (j:=j) f
 have D:∀d:L6,(∀j∈d,j<⇑ps)->(∀k:Int,⇑((d.map λj=>hs.getD j []).filter λs=>decide (k∈s))<=1)->(d.flatMap λj=>hs.getD j []).Nodup:=λd=>by
  induction d with
  | nil=>exact λZ Z=>.nil
  | cons j r ih=>
   intro l u;rw[flatMap_cons];have E:(hs.getD j []).Nodup:=by
    let⟨a,Z⟩:=M j _ _ (vz (l j vq)) (W0 S v (l j vq));exact a.imp λh=>⋯
   refine nodup_append.mpr ⟨E,ih (λk c=>l k (vp _ c)) λk=>?_,λa y b z g=>?_⟩
   .have:=u k;rw[uw,ux]at this;split at this
    .rw[vQ]at this;lia
    .exact this
   .subst g;let⟨B,o,q⟩:=mem_flatMap.mp z;have:=u a;rw[uw,ux,vd (vG y),vQ]at this;have F:0<⇑((r.map λj=>hs.getD j []).filter λs=>decide (a∈s)):=List.length_pos_of_mem (vP.mpr ⟨vK.mpr ⟨B,o,rfl⟩,vG q⟩);lia
 have n:=D (cK ps p.2) (λj m=>by have:=C j m;lia) t;have w:=len_sub (b:=hs.getD i []) n λk c=>by
  let⟨j,m,c⟩:=mem_flatMap.mp c;exact(b k).mpr (.inl ⟨j,m,c⟩)
 rw[List.length_flatMap]at w;exact w
theorem Dh{a:Type}{f:a->Nat}:∀{l:List a},(l.map λx=>c*f x).sum=c*(l.map f).sum
 | []=>rfl
 | x::r=>by rw[uw,uw,sum_cons,sum_cons,Dh,Nat.mul_add]
def Hx(S:oy ls ps gs hs)(A:⇑hs=⇑ps)(M:dV ls ps hs)(G:∀i,i<⇑ps->1<=gs∘i):∀i t,i<⇑ps->0<=t->nodes ps gs i t<=9*(i+1)*max 1 ⇑(hs.getD i []):=by
 intro i
 induction i using Nat.strongRecOn with
 | ind i ih=>
  intro t H z;have W:=S.w;have C:1<=max 1 ⇑(hs.getD i []):=Nat.le_max_left _ _;by_cases a:gs∘i<=t\/cT ps gs i=[]
  .rw[kL a];have:1*1<=9*(i+1)*max 1 ⇑(hs.getD i []):=Nat.mul_le_mul ⋯ C;lia
  rw[W6 W a];obtain⟨p,o⟩:∃p,ps[i]?=some p:=⟨_,vz H⟩
  have c:cT ps gs i=fh gs p.2 (cK ps p.2):=by unfold cT;rw[o]
  have q:=λj=>W.cI (j:=j) o
  have h:∀k∈cK ps p.2,1<=gs∘k/\gs∘k<=10^60:=λk m=>by
   have:=q k m;exact⟨G k ⋯,(S.gb k ⋯).2⟩
  have I:⇑(cK ps p.2)<=8:=by unfold cK;rw[vt];exact(W.f i p o).2
  have b:∀k∈cK ps p.2,nodes ps gs k (gs∘k)=1:=λk Z=>kL (.inl (vA _))
  have u:∀k∈cK ps p.2,∀r,0<=r->nodes ps gs k r<=9*i*max 1 ⇑(hs.getD i []):=λk m r y=>by
   have l:=q k m;have:=ih k l r ⋯ y;have s:=Nh S A M o m;refine vW this (Nat.mul_le_mul ⋯ ?_);exact Nat.max_le.mpr ⟨Nat.le_max_left _ _,vW s (Nat.le_max_right _ _)⟩
  have f:∀X:Nat,X<=8+9*i*max 1 ⇑(hs.getD i [])->1+X<=9*(i+1)*max 1 ⇑(hs.getD i []):=λX K=>by
   rw[Nat.mul_add,Nat.add_mul];have:9*1*1<=9*1*max 1 ⇑(hs.getD i []):=Nat.mul_le_mul (vb _) C;lia
  rw[c];cases e:p.2 with
  | again k x=>
   have d:cK ps p.2=[cS (cb ps) x]:=by rw[e];rfl
   rw[e]at d;rw[d];have g:cS (cb ps) x∈cK ps p.2:=by rw[e,d];exact vq
   refine f _ (vW (Gr (N:=λx=>nodes ps gs x.1 x.2) (h _ g).1 z (b _ g) (u _ g)) ⋯)
  | row xs=>
   rw[e]at h b u I;exact f _ (vW (C5 (N:=λx=>nodes ps gs x.1 x.2) h b u) ⋯)
  | side xs=>
   have F:=I0 S A M o e;let⟨E,Z⟩:=S.sd i p xs o e;rw[show fh gs (.side xs) (cK ps (.side xs))=(cK ps (.side xs)).map λj=>(j,1,0)from rfl];rw[e]at h b F E q;rw[Cp (λk m=>(h k m).1) z,uz];have B:((cK ps (.side xs)).map (Function.comp (λx=>nodes ps gs x.1 x.2) λj=>if gs∘j<=t then(j,gs∘j)else(j,t))).sum<=((cK ps (.side xs)).map λj=>9*i*⇑(hs.getD j [])).sum:=by
    refine Ew λj w=>?_
    have l:=q j w;have J:1<=⇑(hs.getD j []):=length_pos_iff.mpr (E j w);have D:∀r,0<=r->nodes ps gs j r<=9*i*⇑(hs.getD j []):=λr y=>by
     have:=ih j l r ⋯ y;rw[Nat.max_eq_right J]at this;exact vW this (Nat.mul_le_mul ⋯ (vb _))
    show nodes ps gs (if gs∘j<=t then(j,gs∘j)else(j,t)).1 (if gs∘j<=t then(j,gs∘j)else(j,t)).2<=_;split
    .exact D _ (by have:=h j w;lia)
    .exact D _ z
   rw[Dh]at B;refine f _ (vW B (vW (Nat.mul_le_mul (vb (9*i)) (vW F (Nat.le_max_right 1 _))) (Nat.le_add_left _ _)))
  | hold n=>
   exact ub (.inr (by rw[c,e];rfl)) a
  | ring x n=>
   exact ub (.inr (by rw[c,e];rfl)) a
  | rise x v n=>
   exact ub (.inr (by rw[c,e];rfl)) a
end
structure Sn(ls:L4)(ps:N1)(gs:L5)(hs:L1):Prop where
 s:oy ls ps gs hs
 hl:⇑hs=⇑ps
 m:dV ls ps hs
 g1:∀i,i<⇑ps->1<=gs∘i
 ne:1<=⇑ps
 Bl:∀q∈ls,0<=q.2/\q.2<=10^18
 Br:∀(i:Nat) (y x:Str) (v n:Int),ps[i]?=some (y,.rise x v n)->0<=v/\v<=10^18/\1<=n/\n<=10^18
 BK:∀(i:Nat) (y x:Str) (k:Int),ps[i]?=some (y,.again k x)->1<=k/\k<=10^18
section
variable{ls:L4}{ps:N1}{gs:L5}{hs:L1}
def Sn.g(N:Sn ls ps gs hs)(hi:i<⇑ps):1<=gs∘i/\gs∘i<=10^60:=⟨N.g1 i hi,(N.s.gb i hi).2⟩
def Sn.Be(N:Sn ls ps gs hs){i:Nat}(hi:i<⇑ps):gs[i]?=some (gs∘i):=by
 rw[vy,vz (by rw[N.s.gl];exact hi)];rfl
def Sn.i8(N:Sn ls ps gs hs){i:Nat}{p:Str×Fm}(a:ps[i]?=some p):⇑(cK ps p.2)<=8:=by
 unfold cK;rw[vt];exact(N.s.w.f i p a).2
def Sn.nS(N:Sn ls ps gs hs){i:Nat}{q:Pc}(h:q∈cT ps gs i):mP gs q:=by
 have u:=A2 N.s.w h;have n:=h;unfold cT at h;split at h
 case h_2=>exact nomatch h
 rename_i p hp;have o:=(vx.mp hp).1;have g:=N.g (show q.1<⇑ps by lia);have t:=N.i8 hp;have a:∀k∈cK ps p.2,0<=gs∘k/\gs∘k<=10^60:=λk d=>by
  have:=N.s.w.cI hp d;have:=N.g (show k<⇑ps by lia);lia
 refine⟨by rw[N.s.gl];lia,g.1,g.2,?_⟩;unfold fh at h;split at h
 .rename_i k x e;have f:=N.BK i p.1 x k (by rw[hp,<-e]);split at h
  .exact nomatch h
  .rename_i j r ein;have c:=a j (by rw[ein];exact vq);rcases mem_cons.mp h with rfl | h
   .exact⟨(by show(1:Int)<=1;decide),(by show(1:Int)<=10^18;decide),(by show(0:Int)<=0;decide),(by show(0:Int)<=10^62;decide)⟩
   .split at h
    .rw[vo.mp h];refine⟨?_,?_,c.1,?_⟩
     .show 1<=k-1;lia
     .show k-1<=_;lia
     .show gs∘j<=_;lia
    .exact nomatch h
 .let⟨b,l⟩:=YL a h;have m:=(Xx h).2;refine⟨⋯,⋯,b,?_⟩;have:(10:Int)^60*(⇑(cK ps p.2):Int)<=10^60*8:=Int.mul_le_mul_of_nonneg_left ⋯ nofun;lia
 .let⟨j,s,rfl⟩:=vK.mp h;exact⟨(by show(1:Int)<=1;decide),(by show(1:Int)<=10^18;decide),(by show(0:Int)<=0;decide),(by show(0:Int)<=10^62;decide)⟩
def Eb(c:mP gs q)(h:q.2.2<=t):0<=ov gs t q/\ov gs t q<=q.2.1/\ov gs t q*gs∘q.1<=t-q.2.2/\0<=ov gs t q*gs∘q.1:=by
 let⟨j,e,j,f,j,j⟩:=c;have d:0<=(t-q.2.2)/gs∘q.1:=Int.ediv_nonneg ⋯ ⋯;have b:=Int.ediv_mul_le (t-q.2.2) (show gs∘q.1≠0 by lia);have a:0<=ov gs t q/\ov gs t q<=q.2.1/\ov gs t q<=(t-q.2.2)/gs∘q.1:=by
  unfold ov;split<;>lia
 refine⟨a.1,a.2.1,?_,Int.mul_nonneg a.1 ⋯⟩;exact Int.le_trans (Int.mul_le_mul_of_nonneg_right a.2.2 ⋯) b
def xG(j:∀q∈qs,mP gs q)(h:x∈fV gs t qs):0<=x.2:=by
 let⟨y,i,d⟩:=mem_flatMap.mp h;let⟨q,g,e⟩:=Ks i;have o:=j q g;by_cases c:q.2.2<=t
 case neg=>unfold dD at e;rw[vc c]at e;cases e
 have b:=Eb o c;unfold dD at e;rw[vd c]at e;have f:=vL e;subst f;unfold fx at d;rcases vh.mp d with z | z
 .have z:x∈(if 0<ov gs t q then[(q.1,gs∘q.1)]else[]):=z;split at z
  .rw[vo.mp z];exact Int.le_trans nofun o.2.1
  .exact nomatch z
 .split at z
  .rename_i r a;rw[vo.mp z];have a:(if ov gs t q<q.2.1 then some (t-q.2.2-ov gs t q*gs∘q.1)else none)=some r:=a;split at a
   .cases a;show 0<=t-q.2.2-ov gs t q*gs∘q.1;lia
   .cases a
  .exact nomatch z
def Sn.nodes(N:Sn ls ps gs hs)(a:∀i,i<⇑ps->⇑(hs.getD i [])<=8)(hi:i<⇑ps)(b:0<=t):Rm.nodes ps gs i t<=5000:=by
 have:=Hx N.s N.hl N.m N.g1 i t hi b;have c:=N.s.w.mJ;have d:=a i hi;have:9*(i+1)*max 1 ⇑(hs.getD i [])<=9*61*8:=Nat.mul_le_mul ⋯ ⋯;lia
end
noncomputable def ib(ls:L4)(ps:N1)(gs:L5)(E:L0)(h:L5)(x:Nat×Int):L5:=
 if gs∘x.1<=x.2 then(E.getD x.1 []).foldl (λh q=>h.set q.1.toNat q.2) h
 else match ps[x.1]? with
  | some (_,.rise y v n)=>h.set (cS (cb ls) y) (Rp.ramp (h∘(cS (cb ls) y)) v n x.2)
  | _=>h
noncomputable def cQ(ls:L4)(ps:N1)(gs:L5)(E:L0)(t:Int):L5:=(reach ps gs (⇑ps-1) t).foldl (ib ls ps gs E) (ls.map (·.2))
noncomputable def dZ(ps:N1)(x:Nat×Int):L8:=match ps[x.1]? with
 | some (_,.ring y _)=>if x.2=0 then[y]else[]
 | _=>[]
noncomputable def eW(ps:N1)(gs:L5)(t:Int):L8:=(reach ps gs (⇑ps-1) t).flatMap (dZ ps)
def cn.app{d:Type}{R:Addr->d->Prop}{as bs:L7}{xs ys:List d}(h:cn R as xs)(k:cn R bs ys):cn R (as++bs) (xs++ys):=by
 have f:=h.1;refine⟨by rw[vn,vn,h.1,k.1],λi a x b c=>?_⟩;by_cases e:i<⇑as
 .rw[vB e]at b;rw[vB ⋯]at c;exact h.2 i a x b c
 .rw[vC ⋯]at b;rw[vC ⋯]at c;exact k.2 _ a x b (by rw[f];exact c)
def cn.cons{b:Type}{R:Addr->b->Prop}{a:Addr}{as:L7}{x:b}{xs:List b}(h:R a x)(k:cn R as xs):cn R (a::as) (x::xs):=cn.app (as:=[a]) (xs:=[x]) (cn.snoc (as:=[]) (xs:=[]) .nil h) k
theorem cn.rev{b:Type}{R:Addr->b->Prop}:∀{as:L7} {xs:List b},cn R as xs->cn R as.reverse xs.reverse
 | [],[],_=>.nil
 | [],_::_,h=>ub h.1 (by simp)
 | _::_,[],h=>ub h.1 (by simp)
 | a::as,x::xs,h=>by
  rw[reverse_cons,reverse_cons];exact cn.app (cn.rev (cn.tail h).2) (cn.snoc (as:=[]) (xs:=[]) .nil (cn.tail h).1)
def cn.last{e:Type}{R:Addr->e->Prop}{as:L7}{xs:List e}{x:e}(h:cn R as (xs++[x])):∃c a,as=c++[a]/\cn R c xs/\R a x:=by
 rcases List.eq_nil_or_concat as with rfl | ⟨c,a,rfl⟩
 .have:=h.1;simp at this
 .rw[List.concat_eq_append]at h|-;have g:=h.1;rw[vn,vn]at g;have d:⇑c=⇑xs:=by simpa using g
  refine⟨c,a,rfl,⟨d,λi b y f j=>?_⟩,?_⟩
  .have k:=(vx.mp f).1;exact h.2 i b y (by rw[vB k];exact f) (by rw[vB ⋯];exact j)
  .exact h.2 ⇑c a x (by simp) (by rw[d];simp)
def CU{gs:L5}{n:Nat}(h:1<=n)(e:⇑gs=n):ft (gs.map V.int) (-1)=some (.int (gs∘(n-1))):=by
 have i:lQ n (-1)=some (n-1):=by
  unfold lQ;simp;lia
 unfold ft;rw[vt,e,i];show(gs.map V.int)[n-1]?=_;rw[vv,vy,vz ⋯];rfl
section
variable{ls:L4}{ps:N1}{gs:L5}{hs:L1}
def CJ(W:eE ls ps):∀{i:Nat} {t:Int} {x:Nat×Int},i<⇑ps->x∈reach ps gs i t->x.1<⇑ps:=by
 intro i
 induction i using Nat.strongRecOn with
 | ind i ih=>
  intro t x c a;by_cases h:gs∘i<=t\/cT ps gs i=[]
  .rw[zn h]at a
   simp_all
  .rw[yR W h]at a;let⟨y,b,a⟩:=mem_flatMap.mp a;have:=zr W b;exact ih y.1 this ⋯ a
def MU(N:Sn ls ps gs hs)(m:⇑E=⇑ps)(k:dF ls ps E):∀{i:Nat},i<⇑ps->∀q∈E.getD i [],0<=q.2/\q.2<=10^18:=by
 intro i
 induction i using Nat.strongRecOn with
 | ind i ih=>
  intro f q h;have d:E[i]?=some (E.getD i []):=by simp_all
  obtain⟨p,a⟩:∃p,ps[i]?=some p:=⟨_,vz f⟩
  rcases((k i p _ a d).2 q.1 q.2).mp h with⟨l,j,b,e,c,_⟩ | ⟨x,n,e,_⟩
  .have g:j∈cK ps p.2:=by rw[e];simp
   have:=N.s.w.cI a g;exact ih j this ⋯ _ c
  .have:=N.Br i p.1 x q.2 n (by rw[a,<-e]);lia
def Mg(i:0<=h/\h<=10^18)(l:0<=v/\v<=10^18)(k:1<=n)(d:0<=j)(e:j<=n):0<=Rp.ramp h v n j/\Rp.ramp h v n j<=10^18:=by
 unfold Rp.ramp;by_cases c:h<=v
 .have a:0<=(v-h)*j:=Int.mul_nonneg ⋯ d;have b:(v-h)*j<=(v-h)*n:=Int.mul_le_mul_of_nonneg_left e ⋯;have f:0<=(v-h)*j/n:=Int.ediv_nonneg a ⋯;have g:(v-h)*j/n<=v-h:=by
   have:=Int.ediv_le_ediv (show 0<n by lia) b;rw[Int.mul_ediv_cancel _ (show n≠0 by lia)]at this;exact this
  lia
 .have a:(v-h)*j<=0:=Int.mul_nonpos_of_nonpos_of_nonneg ⋯ d;have b:(v-h)*n<=(v-h)*j:=Int.mul_le_mul_of_nonpos_left ⋯ e;have f:(v-h)*j/n<=0:=by
   have:=Int.ediv_le_ediv (show 0<n by lia) a
   simp_all
  have g:v-h<=(v-h)*j/n:=by
   have:=Int.ediv_le_ediv (show 0<n by lia) b;rw[Int.mul_ediv_cancel _ (show n≠0 by lia)]at this;exact this
  lia
end
inductive Fn where
 | hold (n:Int) | ring (x:Str) (n:Int) | rise (x:Str) (h n:Int) | row (is:L6) | side (is:L6) | again (k:Int) (j:Nat)
noncomputable def Fn.js:Fn->L6
 | .row is=>is
 | .side is=>is
 | .again _ j=>[j]
 | _=>[]
def Ex(p:Addr)(H H':Hp):Prop:=∀c u,c≠p->H c=some u->H' c=some u
def Ex.refl(H:Hp):Ex p H H:=λj j j h=>h
def Ex.trans{d e f:Hp}(a:Ex p d e)(b:Ex p e f):Ex p d f:=λc u n h=>b c u n (a c u n h)
def Ex.of{H H':Hp}(s:cj H H'):Ex p H H':=λc u j h=>s c u h
noncomputable def gO(gs:L5):Fn->Int->Prop
 | .hold n,g=>g=n
 | .ring _ n,g=>g=n
 | .rise _ _ n,g=>g=n
 | .row is,g=>g=(is.map λj=>gs∘j).sum
 | .side is,g=>(∃j∈is,g=gs∘j)/\∀j∈is,gs∘j<=g
 | .again k j,g=>g=k*gs∘j
def mM(L:L8)(M:L1)(f:Fn)(ks:L5):Prop:=ks.Pairwise (· < ·)/\∀k,k∈ks↔(∃j∈f.js,k∈M.getD j [])\/∃(x:Str) (h n:Int) (i:Nat),f = .rise x h n/\L[i]?=some x/\k=(i:Int)
def nv(M:L1)(is:L6):Prop:=(∀j∈is,M.getD j []≠[])/\is.Pairwise λa b=>∀k∈M.getD a [],¬k∈M.getD b []
noncomputable def fe(L:L8)(M:L1)(n:Nat):Fn->Prop
 | .hold m=>1<=m/\m<=10^18
 | .ring x m=>1<=m/\m<=10^18/\Ws.fG x=true
 | .rise x h m=>(∃i:Nat,L[i]?=some x)/\0<=h/\h<=10^18/\1<=m/\m<=10^18
 | .row is=>is≠[]/\⇑is<=8/\∀j∈is,j<n
 | .side is=>2<=⇑is/\⇑is<=8/\(∀j∈is,j<n)/\nv M is
 | .again k j=>1<=k/\k<=10^18/\j<n
def fe.js(h:fe L M n f):⇑f.js<=8/\∀j∈f.js,j<n:=by
 cases f with
 | row is=>exact h.2
 | side is=>exact⟨h.2.1,h.2.2.1⟩
 | again k j=>exact⟨by show 1<=8;lia,λi a=>by rw[vo.mp a];exact h.2.2⟩
 | hold n=>exact⟨va _,λj h=>nomatch h⟩
 | ring x n=>exact⟨va _,λj h=>nomatch h⟩
 | rise x v n=>exact⟨va _,λj h=>nomatch h⟩
structure mL(L:L8)(fs:List Fn)(M:L1)(gs:L5):Prop where
 ml:⇑M=⇑fs
 gl:⇑gs=⇑fs
 f:∀(i:Nat) (f:Fn),fs[i]?=some f->fe L M i f/\mM L M f (M.getD i [])/\gO gs f (gs∘i)
 g:∀i,i<⇑fs->1<=gs∘i/\gs∘i<=10^60
noncomputable def dy(names:L8):Fn->Fm
 | .hold n=>.hold n
 | .ring x n=>.ring x n
 | .rise x h n=>.rise x h n
 | .row is=>.row (is.map λj=>names.getD j ⟨#[]⟩)
 | .side is=>.side (is.map λj=>names.getD j ⟨#[]⟩)
 | .again k j=>.again k (names.getD j ⟨#[]⟩)
def QY{a:Type}{xs:List a}{x d:a}{j:Nat}(h:j<⇑xs):(xs++[x]).getD j d=xs.getD j d:=by
 rw[vy,vy,vB h]
def yK{a:Type}{xs:List a}{x d:a}:(xs++[x]).getD ⇑xs d=x:=by
 simp_all
def fe.ext{L:L8}{M:L1}{ks:L5}{n:Nat}{f:Fn}(q:n<=⇑M)(h:fe L M n f):fe L (M++[ks]) n f:=by
 cases f with
 | side is=>
  let⟨a,b,c,d,e⟩:=h;have g:∀j∈is,(M++[ks]).getD j []=M.getD j []:=λj i=>QY (by have:=c j i;lia)
  refine⟨a,b,c,λj i=>by rw[g j i];exact d j i,?_⟩;exact(List.pairwise_iff_forall_sublist.mpr λ{x y} l=>by
   have o:x∈is:=l.subset vq;have p:y∈is:=l.subset (vp _ vq);rw[g x o,g y p];exact List.pairwise_iff_forall_sublist.mp e l)
 | hold m=>exact h
 | ring x m=>exact h
 | rise x v m=>exact h
 | row is=>exact h
 | again k j=>exact h
def mM.ext{L:L8}{M:L1}{ks d:L5}{f:Fn}(c:∀j∈f.js,j<⇑M)(h:mM L M f d):mM L (M++[ks]) f d:=by
 refine⟨h.1,λk=>(h.2 k).trans ?_⟩;have:(∃j∈f.js,k∈M.getD j [])↔∃j∈f.js,k∈(M++[ks]).getD j []:=by
  constructor
  .rintro⟨j,a,b⟩;exact⟨j,a,by rw[QY (c j a)];exact b⟩
  .rintro⟨j,a,b⟩;exact⟨j,a,by rw[QY (c j a)]at b;exact b⟩
 rw[this]
def gO.ext{gs:L5}{g' g:Int}{f:Fn}(n:∀j∈f.js,j<⇑gs)(h:gO gs f g):gO (gs++[g']) f g:=by
 have e:∀j∈f.js,(gs++[g']).getD j 0=gs∘j:=λj a=>QY (n j a)
 cases f with
 | hold m=>exact h
 | ring x m=>exact h
 | rise x v m=>exact h
 | row is=>
  show g=(is.map λj=>(gs++[g']).getD j 0).sum;have d:is.map (λj=>(gs++[g']).getD j 0)=is.map λj=>gs∘j:=map_congr_left e
  rw[d];exact h
 | side is=>
  let⟨⟨j,a,i⟩,l⟩:=h;exact⟨⟨j,a,by rw[e j a];exact i⟩,λc b=>by rw[e c b];exact l c b⟩
 | again k j=>
  show g=k*(gs++[g']).getD j 0;rw[e j vq];exact h
noncomputable def cA(names:L8)(fs:List Fn):N1:=(List.range ⇑fs).map λi=>(names.getD i ⟨#[]⟩,dy names (fs.getD i (.hold 0)))
section
variable{L:L8}{fs:List Fn}{M:L1}{gs:L5}{names:L8}{ls:L4}
def zm:⇑(cA names fs)=⇑fs:=by unfold cA;rw[vt,length_range]
def Hr(h:fs[i]?=some f):(cA names fs)[i]?=some (names.getD i ⟨#[]⟩,dy names f):=by
 unfold cA;have a:=(vx.mp h).1;rw[vv,List.getElem?_range a];have e:fs.getD i (.hold 0)=f:=by rw[vy,h];rfl
 show some (names.getD i ⟨#[]⟩,dy names (fs.getD i (.hold 0)))=_;rw[e]
def QL(h:(cA names fs)[i]?=some p):∃f,fs[i]?=some f/\p=(names.getD i ⟨#[]⟩,dy names f):=by
 have b:=(vx.mp h).1;rw[zm]at b;obtain⟨f,a⟩:∃f,fs[i]?=some f:=⟨_,vz b⟩
 rw[Hr a]at h;exact⟨f,a,(vL h).symm⟩
def Xp(c:⇑fs<=⇑names):cb (cA names fs)=names.take ⇑fs:=by
 unfold cb cA;rw[uz];refine ext_getElem (by rw[vt,length_range,vi];lia) λi a b=>?_
 rw[getElem_map,getElem_range,getElem_take];show names.getD i ⟨#[]⟩=_;rw[vy,vz];rfl
def EF(b:⇑fs<=⇑names)(a:j<⇑fs):(cb (cA names fs))[j]?=some (names.getD j ⟨#[]⟩):=by
 rw[Xp b,List.getElem?_take,vd a,vy,vz ⋯];rfl
def B5(a:⇑fs<=⇑names)(b:names.Nodup):(cb (cA names fs)).Nodup:=by
 rw[Xp a];exact b.sublist (take_sublist _ _)
def WP(c:⇑fs<=⇑names)(d:names.Nodup)(b:∀j∈f.js,j<⇑fs):cK (cA names fs) (dy names f)=f.js:=by
 have e:∀a:L6,(∀j∈a,j<⇑fs)->(a.map λj=>names.getD j ⟨#[]⟩).map (cS (cb (cA names fs)))=a:=λa h=>by
  rw[uz]
  conv=>rhs;rw[<-List.map_id a]
  exact map_congr_left λj b=>Je (B5 c d) (EF c (h j b))
 unfold cK;cases f with
 | row a=>exact e a b
 | side a=>exact e a b
 | again k j=>exact e [j] b
 | hold n=>rfl
 | ring x n=>rfl
 | rise x v n=>rfl
def Ct(f:Fn):(dy names f).ns=f.js.map λj=>names.getD j ⟨#[]⟩:=by cases f<;>rfl
def mL.wf(D:mL (cb ls) fs M gs)(m:⇑fs<=⇑names)(t:names.Nodup)(l:(cb ls).Nodup)(s:⇑ls<=8)(d:⇑fs<=61):eE ls (cA names fs):=by
 refine⟨l,s,B5 m t,by rw[zm];exact d,λi p g=>?_,λi y x h n g=>?_⟩
 .let⟨f,c,rfl⟩:=QL g;have u:=(vx.mp c).1;let⟨a,Z⟩:=D.f i f c;have q:=a.js;refine⟨λx o=>?_,?_⟩
  .rw[Ct]at o;let⟨j,r,rfl⟩:=vK.mp o;have:=q.2 j r;exact⟨j,this,EF m ⋯⟩
  .rw[Ct,vt];exact q.1
 .let⟨f,c,e⟩:=QL g;let⟨a,Z⟩:=D.f i f c;have b:=(Prod.mk.inj e).2;cases f with
  | rise x' h' n'=>
   have:x=x':=by injection b
   subst this;exact a.1
  | hold n=>cases b
  | ring x n=>cases b
  | row is=>cases b
  | side is=>cases b
  | again k j=>cases b
def mL.NQ(D:mL (cb ls) fs M gs)(m:⇑fs<=⇑names)(s:names.Nodup)(b:(cb ls).Nodup):dV ls (cA names fs) M:=by
 intro i p r o u;let⟨f,g,rfl⟩:=QL o;have t:=(vx.mp g).1;let⟨c,d,Z⟩:=D.f i f g;have q:=c.js.2;have l:M.getD i []=r:=by simp_all
 rw[l]at d;refine⟨d.1,λk=>(d.2 k).trans ?_⟩;rw[WP m s λj a=>by have:=q j a;lia];refine⟨λh=>h.imp id ?_,λh=>h.imp id ?_⟩
 .rintro⟨x,v,n,j,rfl,a,rfl⟩;exact⟨x,v,n,rfl,by rw[Je b a]⟩
 .rintro⟨x,v,n,e,rfl⟩;cases f with
  | rise x' h' n'=>
   have:x'=x:=by injection e
   subst this;let⟨j,a⟩:=c.1;exact⟨x',h',n',j,rfl,a,by rw[Je b a]⟩
  | hold n=>cases e
  | ring x n=>cases e
  | row is=>cases e
  | side is=>cases e
  | again k j=>cases e
def LL{M c:L1}(W:eE ls ps)(h:dV ls ps M)(h':dV ls ps c)(l:⇑M=⇑ps)(r:⇑c=⇑ps):∀i,i<⇑ps->c.getD i []=M.getD i []:=by
 intro i
 induction i using Nat.strongRecOn with
 | ind i ih=>
  intro q;have e:ps[i]?=some ps[i]:=vz q;have p:M[i]?=some (M.getD i []):=by simp_all
  have f:c[i]?=some (c.getD i []):=by simp_all
  let⟨a,b⟩:=h i _ _ e p;let⟨n,o⟩:=h' i _ _ e f;refine uO n a λk=>(o k).trans (Iff.trans ?_ (b k).symm)
  have m:(∃j∈cK ps (ps[i]).2,k∈c.getD j [])↔∃j∈cK ps (ps[i]).2,k∈M.getD j []:=by
   constructor
   .rintro⟨j,d,g⟩;have:=W.cI e d;exact⟨j,d,by rw[<-ih j this ⋯];exact g⟩
   .rintro⟨j,d,g⟩;have:=W.cI e d;exact⟨j,d,by rw[ih j this ⋯];exact g⟩
  rw[m]
def mL.sn(D:mL (cb ls) fs M gs)(C:⇑fs<=⇑names)(G:names.Nodup)(B:(cb ls).Nodup)(X:⇑ls<=8)(J:⇑fs<=61)(f1:1<=⇑fs)(Y:∀q∈ls,0<=q.2/\q.2<=10^18):Sn ls (cA names fs) gs M:=by
 have W:=D.wf C G B X J;have O:=D.NQ C G B;have dl:⇑(cA names fs)=⇑fs:=zm;have ml:=D.ml;have gl:=D.gl;refine⟨⟨W,⋯,λi w=>?_,λZ T K i w=>LL W O K ⋯ T i w,λi p t=>?_,λi p qs t e=>?_⟩,⋯,O,λi w=>(D.g i ⋯).1,⋯,Y,λi y x v n t=>?_,λi y x k t=>?_⟩
 .have:=D.g i ⋯;lia
 .let⟨f,m,rfl⟩:=QL t;have w:=(vx.mp m).1;let⟨d,Z,u⟩:=D.f i f m;have o:=d.js.2;rw[show cK (cA names fs) (names.getD i ⟨#[]⟩,dy names f).2=f.js from WP C G λj A=>by have:=o j A;lia];cases f with
  | hold n=>exact⟨trivial,λg h=>Eq.trans h (Eq.symm u)⟩
  | ring x n=>exact⟨trivial,λg h=>Eq.trans h (Eq.symm u)⟩
  | rise x v n=>exact⟨trivial,λg h=>Eq.trans h (Eq.symm u)⟩
  | row is=>exact⟨trivial,λg h=>Eq.trans h (Eq.symm u)⟩
  | side is=>
   refine⟨λz=>?_,λg h=>?_⟩
   .have p2:=d.1;have:⇑is=0:=by rw[<-vt (f:=λj=>gs∘j)];exact congrArg List.length z
    lia
   .let⟨Q,R⟩:=h;let⟨j,A,rfl⟩:=vK.mp Q;let⟨⟨E,s,e'⟩,U⟩:=u;have a1:=U j A;have a2:=R (gs∘E) (vK.mpr ⟨E,s,rfl⟩);lia
  | again k j=>
   have P:=D.g j (by have:=o j vq;lia);refine⟨⟨gs∘j,[],rfl,Int.le_trans nofun d.1,d.2.1,⋯,P.2⟩,λg h=>?_⟩;let⟨y,S,rfl⟩:=h;cases S;exact Eq.symm u
 .let⟨f,m,rfl⟩:=QL t;have w:=(vx.mp m).1;let⟨d,Z,Z⟩:=D.f i f m;have o:=d.js.2;rw[show cK (cA names fs) (names.getD i ⟨#[]⟩,dy names f).2=f.js from WP C G λj A=>by have:=o j A;lia];cases f with
  | side is=>
   let⟨Z,Z,Z,H,I⟩:=d;refine⟨H,λk=>?_⟩;have N:∀o:L6,o.Pairwise (λa b=>∀k∈M.getD a [],¬k∈M.getD b [])->⇑((o.map λj=>M.getD j []).filter λF=>decide (k∈F))<=1:=λo=>by
    induction o with
    | nil=>exact λZ=>va _
    | cons j r ih=>
     intro h;rw[vV]at h;rw[uw,ux];split
     .rename_i c;have e:(r.map λj=>M.getD j []).filter (λF=>decide (k∈F))=[]:=by
       rw[List.filter_eq_nil_iff];intro F L;let⟨E,s,rfl⟩:=vK.mp L;have:=h.1 E s k (of_decide_eq_true c);simpa using this
      rw[e];exact vb _
     .exact ih h.2
   exact N is I
  | hold n=>cases e
  | ring x n=>cases e
  | rise x v n=>cases e
  | row is=>cases e
  | again k j=>cases e
 .let⟨f,m,e⟩:=QL t;let⟨d,Z⟩:=D.f i f m;have l:=(Prod.mk.inj e).2;cases f with
  | rise x' K n'=>
   injection l with e3 e4 e5;subst e3 e4 e5;exact d.2
  | hold n=>cases l
  | ring x n=>cases l
  | row is=>cases l
  | side is=>cases l
  | again k j=>cases l
 .let⟨f,m,e⟩:=QL t;let⟨d,Z⟩:=D.f i f m;have l:=(Prod.mk.inj e).2;cases f with
  | again k' j=>
   injection l with e3 e4;subst e3;exact⟨d.1,d.2.1⟩
  | rise x' K n'=>cases l
  | hold n=>cases l
  | ring x n=>cases l
  | row is=>cases l
  | side is=>cases l
end
end Rm
namespace L2
open PySem PySem.Spec PySem.W PyProof.Rows
theorem Dl:∀{ys:N2} {us:L9},⇑us=⇑ys->(∀(j:Nat) (u:Value),us[j]?=some u->∃y,ys[j]?=some y/\RelV y u)->Vals ys us
 | [],[],_,_=>.nil
 | [],_::_,h,_=>by simp at h
 | _::_,[],h,_=>by simp at h
 | y::ys,u::us,h,q=>by
  let⟨b,e,r⟩:=q 0 u rfl;simp only[List.getElem?_cons_zero,Option.some.injEq]at e;subst e;exact .cons r (Dl #v[h] λj u a=>#v[q (j+1) u #v[a]])
open PySem PySem.Spec PyProof.Rows
def FW{P:Nat->Value->Prop}:∀{xs:N2} {us:L9},⇑us=⇑xs->(∀(i:Nat) v,us[i]?=some v->P i v)->(∀(i:Nat) (v:Value) (x:V),P i v->xs[i]?=some x->RelV x v)->Vals xs us:=by
 intro xs
 induction xs generalizing P with
 | nil=>
  intro us h j j;rw[List.length_eq_zero_iff.mp h];exact .nil
 | cons x r ih=>
  intro us h a b;cases us with
  | nil=>exact ub h (by simp)
  | cons u us=>
   refine .cons (b 0 u x (a 0 u rfl) rfl) (ih (P:=λi v=>P (i+1) v) #v[h] (λi v e=>a (i+1) v #v[e]) λi v y p e=>b (i+1) v y p #v[e])
def EV(ta:TA):TE:=λσ H Q=>ta σ H λvs H1=>∃n:Nat,vs=[.int (n:Nat)]/\n<=10^6/\∀p,H1 p=none->Q (.ref p) (upd H1 p (.lst ((List.range n).map λu:Nat=>V.int (u:Nat))))
def NF{a:TA}{b:St}{H:Hp}{Q:VK}(h:a b H λvs H1=>∃n:Nat,vs=[.int (n:Nat)]/\n<=10^6/\∀p,H1 p=none->Q (.ref p) (upd H1 p (.lst ((List.range n).map λu:Nat=>V.int (u:Nat))))):EV a b H Q:=h
def FO{X:Cx}{a:Expr}{K:TA}{p C D c:Pos}(N:X.calm=true)(r:Gl X "list")(z:X.mg "list"= none)(w:Gl X "range")(A:X.mg "range"= none)(M:PA X [a] K)
  (g:starEach [.Call (.Name "range" C) [a] [] c] X.env=[(false,eval (.Call (.Name "range" C) [a] [] c) X.env)]:=by rfl)
  (R:starEach [a] X.env=[(false,eval a X.env)]:=by rfl) :
  PE X (.Call (.Name "list" p) [.Call (.Name "range" C) [a] [] c] [] D) (EV K):=by
 intro j s σ H Q I h;refine wpAny_Call_Name_kw (Z2 I r z zU ?_);refine PyProof.Rows.callWith_type1 ?_ g rfl;rw[g];refine Calls.spliced_cons ?_;refine Call_ (Z2 I w A boot_range (PyProof.Rows.callWith_type1 (cN (M c j s σ H _ I h) λus l z_=>?_) R rfl));obtain⟨vs,H1,m,W,U⟩:=z_;let⟨n,rfl,hn,q⟩:=U;let⟨u,rfl,t,rfl⟩:=vals1 W;refine call_range_1 ?_;refine Calls.spliced_nil ?_;have T:Builtin.Range.rangeSize 0 (n:Int) 1=((n:Nat):Int):=by rw[rangeSize_one];split<;>lia
 have sl:(10^6:Nat)<=2^24:=by decide
 refine call_list_range (n:=n) (m.ok.hd N) (IsRange.new ..) (small_one ⋯ ⋯ ⋯ ⋯) T ⋯ λE Y f L S e d=>?_
 have B:∀b o,l.heap.get? b=some o->E.get? b=some o:=λb o e=>S b o (vJ _ e)
 have J:l.heap.objs.size<=(l.heap.push {cls:=.type "range",data:=.fields #[.int 0 l.toks,.int n t,.int 1 (l.toks+1)]}).objs.size:=by simp_all
 have Z:Vals ((List.range n).map λu:Nat=>V.int (u:Nat)) f.toList:=by
  refine FW (P:=λi v=>∃t,v=Value.int (0+(i:Int)*1) t) (by rw[Array.length_toList,d.1,vt,length_range]) (λi v e=>d.2 i v #v[e]) λi v x O F=>?_
  rw[vv]at F;let⟨k,y,rfl⟩:=vg.mp F;let⟨t,rfl⟩:=O;have G:=(vx.mp y).1;rw[length_range]at G;rw[List.getElem?_range G]at y;cases y;exact⟨t,by simp⟩
 have sz:(10^6:Nat)<=sizeLine:=by decide
 refine⟨.ref _,_,m.laid (t':=Y) B J (show cD X.prog X.w _ E _ (.lst ((List.range n).map λu:Nat=>V.int (u:Nat)))from⟨by rw[vt,length_range];lia,f.toList,L,Z,#v[e]⟩),rfl,q _ (m.cL.fresh J)⟩
noncomputable abbrev NI:=Sum Key (List Key)
noncomputable abbrev NK:=List NI
section
variable(P:Program)(w:World)
inductive hY(h:Heap):NK->L9->Prop
 | nil:hY h [] []
 | key {k:Key} {v:Value} {ks:NK} {vs:L9}:gG k v=true->hY h ks vs->hY h (Sum.inl k::ks) (v::vs)
 | tup {kk:List Key} {b:Addr} {ks:NK} {vs:L9}:IsTupleKey (cw P w) h kk b->hY h ks vs->hY h (Sum.inr kk::ks) (.ref b::vs)
def oA(h:Heap)(ks:NK)(a:Addr):Prop:=∃o items n,h.get? a=some o/\o.cls = .type "tuple"/\o.data = .seq items n/\hY P w h ks items.toList
end
section
variable{P:Program}{w:World}{h h':Heap}
def hY.inj:∀{x y:NK} {vs:L9},hY P w h x vs->hY P w h y vs->x=y
 | _,_,_,.nil,q=>by cases q;rfl
 | _,_,_,.key a r,q=>by
  cases q with
  | key b t=>rw[(cw P w).inj _ _ _ a b,r.inj t]
  | tup b t=>exact ub ((cw P w).byValue _ _ a) (by simp[carriedByValue])
 | _,_,_,.tup a r,q=>by
  cases q with
  | key b t=>exact ub ((cw P w).byValue _ _ b) (by simp[carriedByValue])
  | tup b t=>rw[a.inj b,r.inj t]
def hY.keeps{d:Addr}{o:Obj}{es ep}(ho:h.get? d=some o)(hd:o.data = .dict es ep)(hs:Heap.SameBut d h h'):∀{x:NK} {vs:L9},hY P w h x vs->hY P w h' x vs
 | _,_,.nil=>.nil
 | _,_,.key a r=>.key a (r.keeps ho hd hs)
 | _,_,.tup a r=>.tup (a.keeps ho hd hs) (r.keeps ho hd hs)
noncomputable def rz(w:World)(P:Program):NI->Int
 | .inl k=>tw w k
 | .inr kk=>tupleKeyHash (cw P w) kk
noncomputable def ni:NI->Nat
 | .inl _=>1
 | .inr kk=>⇑kk+1
noncomputable def lX:NK->Nat
 | []=>1
 | x::r=>ni x+lX r
noncomputable def nN(w:World)(P:Program)(ks:NK):Int:=reduceHash (Builtin.Tuple.tupleHashOf (ks.map (rz w P)))
def oA.typeIs{s:Shared}{ks:NK}{a:Addr}(x:oA P w s.heap ks a):s.TypeIs (.ref a) "tuple":=let ⟨o,_,_,ho,hc,_⟩:=x;⟨o,ho,hc⟩
section
variable{A:Around}{E:Nz}{s:Shared}
def Ld{x:NI}{ks:NK}{v:Value}{vs:L9}{Q:Int->Shared->Prop}(b:A.units<cLine)(i:hY P w s.heap (x::ks) (v::vs))(h:Q (rz w P x) {s with toks:=s.toks+ni x}):wpAny (model P w) A (pyHash v) Q E s:=by
 cases i with
 | key a r=>exact(cw P w).pyHash a h
 | tup a r=>exact wpAny_pyHash_tuple b a h
theorem CZ(x:NI):∀ks:NK,lX (ks++[x])=lX ks+ni x
 | []=>by show ni x+1=1+ni x;lia
 | y::r=>by show ni y+lX (r++[x])=ni y+lX r+ni x;rw[CZ x r];lia
def MX{ks:NK}{a:Addr}{Q:Int->Shared->Prop}(C:A.units+60<cLine)(u:oA P w s.heap ks a)(h:Q (nN w P ks) {s with toks:=s.toks+lX ks}):wpAny (model P w) A (pyHash (.ref a)) Q E s:=by
 have T:=u.typeIs;let⟨o,m,n,B,Z,v,z⟩:=u;have k:A.units<cLine:=⋯
 unfold pyHash
 first | unfold pyHashByItsType | skip
 first | refine ud (wpAny_cRoomFor_or (.inr k) ?_) | skip
 refine ud (wpAny_specialOf T F.slot_tuple_hash.lookup ?_);show wpAny _ _ (if(some (Value.builtin "tuple.__hash__")==some Value.none)=true then _ else _) Q E s;rw[vc (by rw[beq_builtin_none];exact vF)];refine ud (wpAny_specialOf T F.slot_tuple_hash.lookup ?_);show wpAny _ _ (callSpecialIfBoundUnlessNone? (.ref a) "__hash__" _ >>= _) Q E s;refine ud (wpAny_callSpecialIfBoundUnlessNone?_slot T F.slot_tuple_hash (wpAny_call_entry F.slot_tuple_hash T F.entry_tuple_hash ?_ (F.args_tuple_hash_1 _)));show wpAny _ _ (Builtin.Tuple.tupleItemsOf (.ref a) >>= _) _ _ s;refine ud (wpAny_tupleItemsOf B v ?_);refine ud ?_;rw[<-Array.forIn_toList];refine wpAny_forIn_list _ (λd (b:Array Int) q=>∃c left:NK,ks=c++left/\hY P w s.heap left d/\b.toList=c.map (rz w P)/\q={s with toks:=s.toks+(lX c-1)}) _ ?_ ?_ _ _ ⟨[],ks,rfl,z,rfl,rfl⟩
 .rintro x d b q ⟨c,left,rfl,g,j,rfl⟩;have p:∀y:NI,1<=ni y:=λy=>by cases y<;>simp[ni]
  have i:∀l:NK,1<=lX l:=λl=>by
   cases l with
   | nil=>exact vb _
   | cons y r=>exact vW (p y) (Nat.le_add_right _ _)
  cases left with
  | nil=>cases g
  | cons y ks'=>
   have e:hY P w s.heap ks' d:=by cases g with
    | key a r=>exact r
    | tup a r=>exact r
   have f:s.toks+(lX c-1)+ni y=s.toks+(lX (c++[y])-1):=by rw[CZ];have:=i c;lia
   refine ud (Ld (s:={s with toks:=s.toks+(lX c-1)}) (by show A.units+1<cLine;lia) g ?_)
   first
    | exact uc ⟨c++[y],ks',by simp,e,by simp[j],by rw[<-f]⟩
    | exact ud (uc (uc ⟨c++[y],ks',by simp,e,by simp[j],by rw[<-f]⟩))
 .rintro b q ⟨c,left,rfl,g,j,rfl⟩;cases g;rw[append_nil]at h;have i:1<=lX c:=by
   cases c with
   | nil=>exact vb _
   | cons y r=>cases y<;>simp only[lX,ni]<;>lia
  have t:s.toks+(lX c-1)+1=s.toks+lX c:=⋯
  show wpAny _ _ (retInt (Builtin.Tuple.tupleHashOf b.toList)) _ _ _;rw[j];refine wpAny_ret_mkInt ?_;show wpAny _ _ (if(decide (-(2:Int)^63<=Builtin.Tuple.tupleHashOf (c.map (rz w P)))&&decide (Builtin.Tuple.tupleHashOf (c.map (rz w P))<2^63))=true then _ else _) Q E _;unfold nN reduceHash at h;by_cases e:(decide (-(2:Int)^63<=Builtin.Tuple.tupleHashOf (c.map (rz w P)))&&decide (Builtin.Tuple.tupleHashOf (c.map (rz w P))<2^63))=true
  .rw[vd e];rw[vd e]at h;exact uc (by simpa [t]using h)
  .rw[vc e];rw[vc e]at h;exact ud (wpAny_rule (uc (by simpa [t]using h)))
def Nl{x y:NI}{ks ls:NK}{u v:Value}{us vs:L9}(p:A.units+1<cLine)(i:hY P w s.heap (x::ks) (u::us))(j:hY P w s.heap (y::ls) (v::vs)){Q:Bool->Shared->Prop}(h:Q (decide (x=y)) s):wpAny (model P w) A (eqBool u v) Q E s:=by
 have f:∀{m:List Key} {b:Addr},IsTupleKey (cw P w) s.heap m b->∃c,s.heap.IsTuple b c:=λ⟨o,c,n,g,k,l,_⟩=>⟨c,o,g,k,n,l⟩
 cases i with
 | key a r=>
  cases j with
  | key b t=>
   refine(cw P w).eqBool a b ?_
   simp_all
  | tup b t=>
   let⟨c,e⟩:=f b;rw[vH (λz=>nomatch z)]at h;rcases Jo a with⟨i,t,rfl,rfl⟩ | ⟨x,t,rfl,rfl⟩
   .exact SeqAt.EqAt.int_tuple i t e ⋯ _ _ _ _ h
   .exact SeqAt.EqAt.str_tuple x t e ⋯ _ _ _ _ h
 | tup a r=>
  let⟨c,d⟩:=f a;cases j with
  | key b t=>
   rw[vH (λz=>nomatch z)]at h;rcases Jo b with⟨i,t,rfl,rfl⟩ | ⟨x,t,rfl,rfl⟩
   .exact SeqAt.EqAt.tuple_int i t d ⋯ _ _ _ _ h
   .exact SeqAt.EqAt.tuple_str x t d ⋯ _ _ _ _ h
  | tup b t=>
   refine wpAny_eqBool_tuple ⋯ a b ?_
   simp_all
theorem D0(c:A.units+1<cLine):∀{x y:NK} {us vs:L9},hY P w s.heap x us->hY P w s.heap y vs->∀(j:Nat) (h1:j<⇑us) (h2:j<⇑vs),∃(a:j<⇑x) (b:j<⇑y),∀(E:Nz) (Q:Bool->Shared->Prop),Q (decide (x[j]=y[j])) s->wpAny (model P w) A (eqBool us[j] vs[j]) Q E s
 | [],_,_,_,i,_,j,h1,_=>by cases i;exact ub h1 (Nat.not_lt_zero _)
 | _::_,[],_,_,_,i,j,_,h2=>by cases i;exact ub h2 (Nat.not_lt_zero _)
 | x::xs,y::ys,[],_,i,_,_,_,_=>nomatch i
 | x::xs,y::ys,_::_,[],_,i,_,_,_=>nomatch i
 | x::xs,y::ys,u::us,v::vs,i,k,0,_,_=>⟨Nat.succ_pos _,Nat.succ_pos _,λE Q h=>Nl c i k h⟩
 | x::xs,y::ys,u::us,v::vs,i,k,j+1,h1,h2=>by
  have d:hY P w s.heap xs us:=by cases i with
   | key _ r=>exact r
   | tup _ r=>exact r
  have e:hY P w s.heap ys vs:=by cases k with
   | key _ r=>exact r
   | tup _ r=>exact r
  let⟨a,b,q⟩:=D0 c d e j (Nat.lt_of_succ_lt_succ h1) (Nat.lt_of_succ_lt_succ h2);exact⟨Nat.succ_lt_succ a,Nat.succ_lt_succ b,λE Q h=>q E Q h⟩
def hY.length:∀{x:NK} {vs:L9},hY P w h x vs->⇑x=⇑vs
 | _,_,.nil=>rfl
 | _,_,.key _ r=>by rw[vQ,vQ,⇑r]
 | _,_,.tup _ r=>by rw[vQ,vQ,⇑r]
def Mj{a:Type}[DecidableEq a]{x y:List a}{e:Nat->Bool}(d:∀j (h1:j<⇑x) (h2:j<⇑y),e j=decide (x[j]=y[j])):((List.range (min ⇑x ⇑y)).all e&&⇑x==⇑y)=decide (x=y):=by
 by_cases z:x=y
 .simp_all
 .rw[vH z];cases e':((List.range (min ⇑x ⇑y)).all e&&⇑x==⇑y)with
  | false=>rfl
  | true=>
   rw[Bool.and_eq_true]at e';let⟨h1,h2⟩:=e';have h2:⇑x=⇑y:=by simpa using h2
   refine ub (ext_getElem h2 λj b c=>?_) z;have:=all_eq_true.mp h1 j (v7.mpr ⋯);rw[d j b c]at this;exact of_decide_eq_true this
def NL{x y:NK}{a b:Addr}{Q:Bool->Shared->Prop}(hu:A.units+60<cLine)(T:oA P w s.heap x a)(U:oA P w s.heap y b)(h:Q (decide (x=y)) s):wpAny (model P w) A (eqBool (.ref a) (.ref b)) Q E s:=by
 by_cases B:a=b
 .subst B;let⟨o,c,n,R,_,H,I⟩:=T;let⟨o',a0,n',i,_,f,N⟩:=U;rw[R]at i;cases i;rw[H]at f;cases f;rw[I.inj N,vG rfl]at h;exact SeqAt.EqAt.same _ P w E Q h
 .have X:=T.typeIs;have Y:=U.typeIs;let⟨⟨_,oa,_,sa⟩,c,n,R,Z,H,I⟩:=id T;let⟨⟨_,ob,_,sb⟩,d,m,i,C,f,p⟩:=id U;simp only at Z H C f;subst Z H C f;unfold eqBool;refine wpAny_holding ?_;refine wpAny_ite_split (λz=>ub (by have:=eq_of_beq z;injection this) B) λ_=>?_
  have lx:⇑x=c.size:=I.length.trans Array.length_toList;have ly:⇑y=d.size:=p.length.trans Array.length_toList
  let e:Nat->Bool:=λj=>decide (x[j]?=y[j]?)
  have J:((List.range (min c.size d.size)).all e&&c.size==d.size)=decide (x=y):=by
   rw[<-lx,<-ly];refine Mj λj K L=>?_
   show decide (x[j]?=y[j]?)=_;rw[vz K,vz L];exact decide_eq_decide.mpr ⟨vL,congrArg _⟩
  refine ud (wpAny_richCompare_same_room (op:=.Eq) X Y F.slot_tuple_eq (wpAny_call_entry F.slot_tuple_eq X F.entry_tuple_eq ?_ (F.args_tuple_eq_2 _ _)) ⋯);show wpAny _ _ (isInstance (.ref b) (.type "tuple") >>= _) _ _ s;refine ud (wpAny_isInstance Y isSubtype_tuple_tuple ?_);simp only[Bool.not_true,Bool.false_eq_true,if_false];refine ud (wpAny_tupleItemsOf R rfl ?_);refine ud (wpAny_tupleItemsOf i rfl ?_);refine ud ?_;refine wpAny_forIn_list _ (λl r W=>r.1=none/\W=s/\∃k,l=(List.zip c.toList d.toList).drop k/\∀j,j<k->e j=true) _ ?_ ?_ _ _ ⟨rfl,rfl,0,rfl,λj p=>ub p (Nat.not_lt_zero _)⟩
  .rintro⟨u,v⟩ l r W ⟨S,rfl,k,G,O⟩;have D:k<⇑(List.zip c.toList d.toList):=by
    rcases Nat.lt_or_ge k ⇑(List.zip c.toList d.toList) with g | g
    .exact g
    .rw[List.drop_eq_nil_of_le g]at G;cases G
   rw[List.drop_eq_getElem_cons D]at G;injection G with hz1 hz2;rw[List.length_zip]at D;have l1:k<⇑c.toList:=⋯
   have l2:k<⇑d.toList:=⋯
   rw[List.getElem_zip]at hz1;injection hz1 with eu ev;let⟨K,L,q⟩:=D0 (A:=A.in1) (by show A.units+1+1<cLine;lia) I p k l1 l2;have ek:e k=decide (x[k]=y[k]):=by
    show decide (x[k]?=y[k]?)=_;rw[vz K,vz L];exact decide_eq_decide.mpr ⟨vL,congrArg _⟩
   rw[eu,ev];refine ud (q _ _ ?_);by_cases z:x[k]=y[k]
   .rw[vG z];simp only[Bool.not_true,Bool.false_eq_true,if_false];refine uc ⟨rfl,rfl,k+1,hz2,λj p=>?_⟩;rcases Nat.lt_or_ge j k with g | g
    .exact O j g
    .have:j=k:=⋯
     subst this;rw[ek,vG z]
   .rw[vH z];simp only[Bool.not_false,if_true];have hf:decide (x=y)=false:=vH λg=>z (by subst g;rfl)
    rw[hf]at h;exact ud (uc (uc (uc ⟨_,rfl,(λe=>nomatch e),wpAny_truthy_bool h⟩)))
  .rintro⟨r1,r2⟩ W ⟨S,rfl,k,G,O⟩;simp only at S;subst S;have M:⇑(List.zip c.toList d.toList)<=k:=by
    simp_all
   rw[List.length_zip,Array.length_toList,Array.length_toList]at M;have t:(c.size==d.size)=decide (x=y):=by
    rw[<-J,all_eq_true.mpr λj p=>O j (by have:=v7.mp p;lia),Bool.true_and]
   refine uc ⟨_,rfl,(λe=>nomatch e),wpAny_truthy_bool ?_⟩;rw[t];exact h
def Hk{p:List Key}{b:Addr}{n:Nat}{Q:Bool->Shared->Prop}(i:IsTupleKey (cw P w) s.heap p b)(h:Q true s):wpAny (model P w) A (eqIsQuiet (n+1) (.ref b)) Q E s:=by
 have T:=i.typeIs;let⟨o,d,m,l,Z,j,k⟩:=i;unfold eqIsQuiet;refine ud (wpAny_specialOf T F.slot_tuple_eq.lookup ?_);show wpAny _ _ (isInstance (.ref b) (.type "tuple") >>= _) _ _ s;refine ud (wpAny_isInstance T isSubtype_tuple_tuple ?_);simp only[Bool.not_true,Bool.false_eq_true,if_false];refine ud (wpAny_seqItems l j ?_);refine ud ?_;show wpAny _ _ (forIn d _ _) _ _ s;rw[<-Array.forIn_toList];refine wpAny_forIn_list _ (λc r g=>r.1=none/\g=s/\∀v∈c,carriedByValue v=true) _ ?_ ?_ _ _ ⟨rfl,rfl,k.byValue⟩
 .rintro v c r g ⟨e,rfl,a⟩;rw[eqIsQuiet_byValue _ (a v vq)];refine ud (uc ?_);simp only[Bool.not_true,Bool.false_eq_true,if_false];exact uc ⟨rfl,rfl,λu f=>a u (vp _ f)⟩
 .rintro⟨q,t⟩ g ⟨e,rfl,_⟩;simp only at e;subst e;exact uc h
def Mf{ks:NK}{a:Addr}{Q:Bool->Shared->Prop}(f:oA P w s.heap ks a)(h:Q true s):wpAny (model P w) A (eqIsQuiet 8 (.ref a)) Q E s:=by
 have T:=f.typeIs;let⟨o,c,m,l,Z,i,j⟩:=f;unfold eqIsQuiet;refine ud (wpAny_specialOf T F.slot_tuple_eq.lookup ?_);show wpAny _ _ (isInstance (.ref a) (.type "tuple") >>= _) _ _ s;refine ud (wpAny_isInstance T isSubtype_tuple_tuple ?_);simp only[Bool.not_true,Bool.false_eq_true,if_false];refine ud (wpAny_seqItems l i ?_);refine ud ?_;show wpAny _ _ (forIn c _ _) _ _ s;rw[<-Array.forIn_toList];refine wpAny_forIn_list _ (λb r e=>r.1=none/\e=s/\∃g:NK,hY P w s.heap g b) _ ?_ ?_ _ _ ⟨rfl,rfl,ks,j⟩
 .rintro v b r e ⟨d,rfl,g,k⟩;cases k with
  | key z t=>
   rw[eqIsQuiet_byValue _ ((cw P w).byValue _ _ z)];refine ud (uc ?_);simp only[Bool.not_true,Bool.false_eq_true,if_false];exact uc ⟨rfl,rfl,_,t⟩
  | tup z t=>
   refine ud (Hk z ?_);simp only[Bool.not_true,Bool.false_eq_true,if_false];exact uc ⟨rfl,rfl,_,t⟩
 .rintro⟨n,p⟩ e ⟨d,rfl,_⟩;simp only at d;subst d;exact uc h
end
noncomputable def fK(P:Program)(w:World):HeapKind P w NK where
 is:=oA P w
 hash:=nN w P
 draws:=lX
 room:=λA=>A.units+60<cLine
 inj:=λhx hy=>by
  let⟨o,its,n,ho,j,hd,hi⟩:=hx;let⟨o',its',n',ho',j,hd',hi'⟩:=hy;rw[ho]at ho';cases ho';rw[hd]at hd';cases hd';exact hi.inj hi'
 keeps:=λ{h h' k a d o es ep} x ho hd hs=>by
  let⟨o',its,n,ho',hc,hd',hi⟩:=x;have ne:a≠d:=λz=>by
   lia
  exact⟨o',its,n,(hs.2 a ne).trans ho',hc,hd',hi.keeps ho hd hs⟩
 pyHash:=λhu hk h=>MX hu hk h
 eqBool:=λhu hx hy h=>NL hu hx hy h
 quiet:=λhk h=>Mf hk h
end
section
variable{prog:Program}{w:World}{K:Type}[DecidableEq K]{knd:HeapKind prog w K}{A:Around}{E:Nz}{s:Shared}
def Hq{d a:Addr}{xs:List (K×Addr×Value)}{k:K}{v:Value}{Q:Nz}(q:knd.room A)(b:knd.is s.heap k a)(G:s.heap.DictOfH knd d xs)(hz:⇑xs<=sizeLine)
  (C:∀p,atKey xs k=some p->Q p.2 {s with toks:=s.toks+knd.draws k})
  (D:atKey xs k=none->∀h',h'.DictOfH knd d (xs++[(k,a,v)])->Heap.SameBut d s.heap h'->Q v {s with heap:=h',toks:=s.toks+knd.draws k}) :
  wpAny (model prog w) A (dictSetDefault d (.ref a) v) Q E s:=by
 let⟨o,B,u,g,F,c,l,h,m⟩:=G;have H:=size_of_entries l;unfold dictSetDefault
 try with_reducible refine wpAny_holding ?_
 refine ud (knd.pyHash q b ?_);refine ud (wpAny_dictFind_heap (s:={s with toks:=s.toks+knd.draws k}) q b g c l h m (λt=>?_) λj p n=>?_)
 .have i:k∉xs.map (·.1):=not_mem_keys_of_get t;refine ud (wpAny_rule (ud (wpAny_updateDictKeys (hz:=⋯) (s:={s with toks:=s.toks+knd.draws k}) g c (uc (D (atKey_none_of_get t) _ ⟨_,_,u+1,Heap.get?_update_self _ g (Obj.isFreed_of_dict (Obj.data_mapDictKeys c _)),F.mapDictKeys _,Obj.data_mapDictKeys c _,?_,λx f=>?_,?_⟩ (Heap.SameBut.update ..))))))
  .simp[l,entryOfKey]
  .rcases vh.mp f with f | f
   .exact knd.keeps (h x f) g c (Heap.SameBut.update ..)
   .rw[vo.mp f];exact knd.keeps b g c (Heap.SameBut.update ..)
  .rw[vj,nodup_append];refine⟨m,by simp,λx f y r z=>?_⟩;simp only[map_cons,map_nil,mem_singleton]at r;exact i (r▸z▸f)
 .refine ud (wpAny_dictEntries (s:={s with toks:=s.toks+knd.draws k}) g c ?_);have e:B[j]?=some (entryOfKey knd (k,p)):=by rw[entry_at l j,n];rfl
  rw[e];exact ud (wpAny_rule (uc (C p (atKey_of_get m n))))
def FR(d a:Addr)(i:(d==sysModules)=false)(v:Value) :
  MeetsIn prog w (Builtin.«dict.setdefault» ⟨[.ref d,.ref a,v],[]⟩) (λA R s=>knd.room A.in1/\∃k xs,knd.is s.heap k a/\s.heap.DictOfH knd d xs/\⇑xs<=sizeLine/\
   (∀p,atKey xs k=some p->R (.ok (.ret p.2)) {s with toks:=s.toks+knd.draws k})/\
   (atKey xs k=none->∀h',h'.DictOfH knd d (xs++[(k,a,v)])->Heap.SameBut d s.heap h'->R (.ok (.ret v)) {s with heap:=h',toks:=s.toks+knd.draws k})):=
 .of_wp λA R s ⟨m,k,xs,b,f,n,g,h⟩=>by
  unfold Builtin.«dict.setdefault»;refine ud ?_;unfold Builtin.Dict.keyAndDefault;refine ud (wpAny_notOrdered_dict f.typeIs ?_);show wpAny _ _ (pure (d,Value.ref a,some v)) _ _ s;refine uc ?_;show wpAny _ _ (if(d==sysModules)=true then _ else(dictSetDefault d (.ref a) v >>= _)) _ _ s;rw[vc (by rw[i];exact vF)];exact ud (Hq m b f n (λp l=>uc ⟨p.2,rfl,g p l⟩) λj h' c e=>uc ⟨v,rfl,h j h' c e⟩)
def fE(h:Heap)(d:Addr)(es:Array DictEntry)(ep:Nat):Prop:=∃o,h.get? d=some o/\o.ExactDict/\o.data = .dict es ep
def fE.typeIs{d:Addr}{es:Array DictEntry}{ep:Nat}(x:fE s.heap d es ep):s.TypeIs (.ref d) "dict":=let ⟨o,ho,hc,_⟩:=x;⟨o,ho,hc.1⟩
def IS{d:Addr}{es:Array DictEntry}{ep:Nat}{Q:Nz}(f:(d==sysModules)=false)(b:fE s.heap d es ep)
  (e:Q (.ref s.heap.objs.size) {s with heap:=s.heap.push {cls:=.type "dict_keyiterator",data:=.fields #[.ref d,.int 0 0,.int es.size 0,.int ep 0]}}) :
  wpAny (model prog w) A (pyIter (.ref d)) Q E s:=by
 have T:=b.typeIs;let⟨o,c,g,a⟩:=b;refine wpAny_pyIter_slot T F.slot_dict_iter (wpAny_call_entry F.slot_dict_iter T F.entry_dict_iter ?_ (F.args_dict_iter_1 _));unfold Builtin.«dict.__iter__»;refine ud ?_;unfold Builtin.Dict.dictSlotNone;refine ud (wpAny_notOrdered_dict T ?_);show wpAny _ _ (pure (Value.ref d)) _ _ s;refine uc ?_;show wpAny _ _ (Builtin.Dict.showsAll d >>= _) _ _ s;unfold Builtin.Dict.showsAll;rw[vc (by rw[f];exact vF)];refine ud (uc ?_);refine ud (wpAny_dictEntries c a ?_);refine ud (wpAny_dictEpoch c a ?_);refine ud (wpAny_newObj_type (uc ⟨_,rfl,"dict_keyiterator",_,⟨_,Heap.get?_push_size _ rfl,rfl⟩,F.slot_dict_keyiterator_next.lookup,?_⟩));simpa [rawInt]using e
def Ik{it d:Addr}{i ep:Nat}{es:Array DictEntry}{e:DictEntry}{Q:Option Value->Shared->Prop}(a:s.heap.IsKeyIter it d i es.size ep)(n:fE s.heap d es ep)(p:es[i]?=some e)
  (k:∀h',h'.IsKeyIter it d (i+1) es.size ep->Heap.SameBut it s.heap h'->Q (some e.key) {s with heap:=h'}):wpAny (model prog w) A (pyNext (.ref it)) Q E s:=by
 let⟨o,j,l,h⟩:=id a;let⟨q,f,m,c⟩:=n;unfold pyNext;refine ud (wpAny_attempt (wpAny_callSpecial?_slot (name:=Str.ofString "__next__") a.typeIs F.slot_dict_keyiterator_next (wpAny_call_entry F.slot_dict_keyiterator_next a.typeIs F.entry_dict_keyiterator_next ?_ (F.args_dict_keyiterator_next_1 _))));refine ud (uc ?_);refine ud ?_;refine ud ?_
 first | refine ud (wpAny_typeNameOfWhole_keyiter a.typeIs (uc ?_)) | refine ud (wpAny_typeNameOf_keyiter a.typeIs (uc ?_))
 refine ud (wpAny_fieldsOf j h ?_);have g:Builtin.Dict_items.ownsTuple "dict_keyiterator"= false:=by decide
 simp only[g,Bool.false_eq_true,if_false];show wpAny _ _ (if(Value.ref d==Value.none)=true then _ else _) _ _ s;rw[vc (show¬((Value.ref d==Value.none)=true)from vF)];refine ud (uc (ud (wpAny_dictEntries f c ?_)));rw[vc (by simp)];refine ud (uc (ud (wpAny_dictEpoch f c ?_)));rw[vc (by simp)];refine uc ?_;simp only[show¬((i:Int)<0)from ⋯,if_false,Int.toNat_natCast,p];refine ud ?_
 first | refine ud (wpAny_typeNameOfWhole_keyiter a.typeIs (uc ?_)) | refine ud (wpAny_typeNameOf_keyiter a.typeIs (uc ?_))
 refine ud (wpAny_isOneOf_keyiter a.typeIs ?_);show wpAny _ _ (setField (.ref it) 1 (rawInt ((i:Int)+1)) >>= _) _ _ s;refine ud (wpAny_setField j h (by simp) ?_);have b:(s.heap.update it (Obj.mapFields (·.setIfInBounds 1 (rawInt ((i:Int)+1))))).IsKeyIter it d (i+1) es.size ep:=
  ⟨_,Heap.get?_update_self _ j (Obj.isFreed_of_fields (Obj.data_mapFields h _)),(Obj.cls_mapFields ..).trans l,by rw[Obj.data_mapFields h];simp[rawInt]⟩
 refine ud (wpAny_holding ?_);refine ud (wpAny_isOneOf_keyiter (s:={s with heap:=s.heap.update it (Obj.mapFields (·.setIfInBounds 1 (rawInt ((i:Int)+1))))}) b.typeIs ?_);show wpAny _ _ (pure e.key) _ _ _;exact uc (uc ⟨_,rfl,uc (k _ b (Heap.SameBut.update ..))⟩)
def Mh{it d:Addr}{ep:Nat}{es:Array DictEntry}{Q:Option Value->Shared->Prop}(l:A.handled=none)(c:s.heap.IsKeyIter it d es.size es.size ep)(n:fE s.heap d es ep)
  (j:∀h',Heap.ExtBut it s.heap h'->Q none {s with heap:=h'}):wpAny (model prog w) A (pyNext (.ref it)) Q E s:=by
 let⟨o,i,p,h⟩:=id c;let⟨q,f,k,e⟩:=n;unfold pyNext;refine ud (wpAny_attempt (wpAny_callSpecial?_slot (name:=Str.ofString "__next__") c.typeIs F.slot_dict_keyiterator_next (wpAny_call_entry F.slot_dict_keyiterator_next c.typeIs F.entry_dict_keyiterator_next ?_ (F.args_dict_keyiterator_next_1 _))));refine ud (uc ?_);refine ud ?_;refine ud ?_
 first | refine ud (wpAny_typeNameOfWhole_keyiter c.typeIs (uc ?_)) | refine ud (wpAny_typeNameOf_keyiter c.typeIs (uc ?_))
 refine ud (wpAny_fieldsOf i h ?_);have g:Builtin.Dict_items.ownsTuple "dict_keyiterator"= false:=by decide
 simp only[g,Bool.false_eq_true,if_false];show wpAny _ _ (if(Value.ref d==Value.none)=true then _ else _) _ _ s;rw[vc (show¬((Value.ref d==Value.none)=true)from vF)];refine ud (uc (ud (wpAny_dictEntries f e ?_)));rw[vc (by simp)];refine ud (uc (ud (wpAny_dictEpoch f e ?_)));rw[vc (by simp)];refine uc ?_;simp only[show¬((es.size:Int)<0)from ⋯,if_false,Int.toNat_natCast,Array.getElem?_eq_none (Nat.le_refl es.size)];refine ud ?_
 first | refine ud (wpAny_typeNameOfWhole_keyiter c.typeIs (uc ?_)) | refine ud (wpAny_typeNameOf_keyiter c.typeIs (uc ?_))
 show wpAny _ _ (setField (.ref it) 0 .none >>= _) _ _ s;refine ud (wpAny_setField i h (by simp) ?_);show wpAny _ _ (newExc (.type "StopIteration") [] >>= _) _ _ _;refine ud ?_;simp only[newExc,newTuple];refine ud (wpAny_newObj_type ?_ (by size_fits));refine ud (m:=firstArgMember _ _) (wpAny_of_eq (a:=Value.none) (by first | rfl | (simp only[firstArgMember];rfl)) ?_);refine wpAny_newObj_type ?_ (by size_fits);simp only[raiseNew];refine ud (wpAny_handled ?_);rw[show A.in1.handled=none from l];refine ud (uc (wpAny_throw ?_));refine ud (wpAny_isInstance (T:="StopIteration") (b:=true) ⟨_,Heap.get?_push_size _ rfl,rfl⟩ isSubtype_stop ?_);exact uc (j _ (((Heap.SameBut.update ..).extBut.push _).push _))
def fE.at'{h h':Heap}{d:Addr}{es:Array DictEntry}{ep:Nat}(x:fE h d es ep)(e:∀o,h.get? d=some o->h'.get? d=some o):fE h' d es ep:=let ⟨o,ho,r⟩:=x;⟨o,e _ ho,r⟩
def fE.lt{h:Heap}{d:Addr}{es:Array DictEntry}{ep:Nat}(x:fE h d es ep):d<h.objs.size:=let ⟨_,ho,_⟩:=x;vI ho
def Hn(q:A.handled=none)(I d:Addr)(m:d≠I)(es:Array DictEntry)(ep:Nat) :
  Walks prog w A I [I,d] [I] es.size (λi v=>∃e,es[i]?=some e/\v=e.key) (λi h=>h.IsKeyIter I d i es.size ep/\fE h d es ep) where
 sub:=λb c=>by simp at c;simp[c]
 frame:=λZ Z Z a p=>⟨a.1.at λo e=>p I (by simp) o e,a.2.at' λo e=>p d (by simp) o e⟩
 item:=λi s Q E n a f=>Ik a.1 a.2 (Array.getElem?_eq_getElem n) λk g j=>
  f _ k s.toks ⟨_,Array.getElem?_eq_getElem n,rfl⟩ ⟨g,a.2.at' λo e=>j.extBut d o m e⟩ λb o c e=>j.extBut b o (λh=>c (by simp[h])) e
 done:=λs Q E a f=>Mh q a.1 a.2 λk l=>f k s.toks λb o c e=>l b o (λh=>c (by simp[h])) e
 self:=λZ Z Z Z a f=>wpAny_pyIter_keyiter a.1 f
def Mi{d:Addr}{es:Array DictEntry}{ep:Nat}(lo:(d==sysModules)=false):KdlSrc prog w "dict" d d es.size (λi v=>∃e,es[i]?=some e/\v=e.key) (λh=>fE h d es ep) where
 type:=λj a=>a.typeIs
 there:=λj a=>⟨a.lt,a.lt⟩
 keep:=λj j a f=>a.at' λo e=>f d (.inl rfl) o e
 notList:=by decide
 notTuple:=by decide
 hint:=λj j j j a b=>kdl_hint_dict a.typeIs b
 iter:=λj j c a=>⟨_,_,(λj j b=>IS lo a b),Hn c _ d (vE a.lt) es ep,⟨⟨_,Heap.get?_push_size _ rfl,rfl,rfl⟩,a.at' λo e=>vJ _ e⟩⟩
end
inductive ri(H:Hp):N2->NK->Prop
 | nil:ri H [] []
 | key {k:Key} {vs:N2} {ks:NK}:ri H vs ks->ri H (kV k::vs) (Sum.inl k::ks)
 | tup {b:Addr} {kk:List Key} {vs:N2} {ks:NK}:H b=some (.tup (kk.map kV))->ri H vs ks->ri H (.ref b::vs) (Sum.inr kk::ks)
def rh(H:Hp)(b:Addr)(ks:NK):Prop:=∃vs,H b=some (.tup vs)/\ri H vs ks
section
variable{P:Program}{w:World}{H:Hp}{h:Heap}
theorem AW(a:fy P w H h):∀{vs:N2} {ks:NK} {us:L9},ri H vs ks->Vals vs us->hY P w h ks us
 | _,_,_,.nil,r=>by cases r;exact .nil
 | _,_,_,.key t,r=>by
  cases r with
  | cons r1 r2=>exact .key (Xu (P:=P) (w:=w) r1) (AW a t r2)
 | _,_,_,.tup e t,r=>by
  cases r with
  | cons r1 r2=>
   cases r1;exact .tup (W4 a e) (AW a t r2)
def Ed{b:Addr}{ks:NK}(c:fy P w H h)(x:rh H b ks):oA P w h ks b:=by
 let⟨i,e,n⟩:=x;let⟨j,a,r,o,d,f,m,g⟩:=(show cD P w H h b (.tup i)from c b _ e)
 exact⟨o,a.toArray,m,d,f,g,#v[AW c n r]⟩
end
noncomputable abbrev NE:=NK×Addr×V
noncomputable def lV(P:Program)(w:World)(a:Addr)(xs:List NE):HO:=.ext λh=>⇑xs<=sizeLine/\(a==sysModules)=false/\(xs.map (·.1)).Nodup/\∃ys:List (NK×Addr×Value),
 Paired (λ(p:NE) (q:NK×Addr×Value)=>p.1=q.1/\p.2.1=q.2.1/\RelV p.2.2 q.2.2) xs ys/\∃es ep,fE h a es ep/\es.toList=ys.map (entryOfKey (fK P w))
section
variable{P:Program}{w:World}{H:Hp}{h:Heap}{a:Addr}{xs:List NE}
def DX(z:⇑xs<=sizeLine)(c:(a==sysModules)=false)(d:(xs.map (·.1)).Nodup){ys:List (NK×Addr×Value)}(r:Paired (λ(p:NE) (q:NK×Addr×Value)=>p.1=q.1/\p.2.1=q.2.1/\RelV p.2.2 q.2.2) xs ys)
  {es:Array DictEntry} {ep:Nat} (b:fE h a es ep) (e:es.toList=ys.map (entryOfKey (fK P w))):cD P w H h a (lV P w a xs):=by
 refine⟨⟨z,c,d,ys,r,es,ep,b,e⟩,let ⟨o,ho,_⟩:=b;⟨o,ho⟩,?_⟩;rintro f g ⟨z,c,d,ys,r,es,ep,b,e⟩ k;exact⟨z,c,d,ys,r,es,ep,b.at' k,e⟩
def lK(xs:List NE)(ys:List (NK×Addr×Value)):Prop:=Paired (λ(p:NE) (q:NK×Addr×Value)=>p.1=q.1/\p.2.1=q.2.1/\RelV p.2.2 q.2.2) xs ys
theorem lK.keys:∀{xs:List NE} {ys:List (NK×Addr×Value)},lK xs ys->ys.map (·.1)=xs.map (·.1)
 | _,_,.nil=>rfl
 | _,_,.cons r t=>by rw[uw,uw,r.1,lK.keys t]
def lK.length{xs:List NE}{ys:List (NK×Addr×Value)}(r:lK xs ys):⇑xs=⇑ys:=by
 have:=congrArg List.length r.keys
 simp_all
theorem lK.snoc{k:NK}{b:Addr}{v:V}{u:Value}(a:RelV v u):∀{xs:List NE} {ys:List (NK×Addr×Value)},lK xs ys->lK (xs++[(k,b,v)]) (ys++[(k,b,u)])
 | _,_,.nil=>.cons ⟨rfl,rfl,a⟩ .nil
 | _,_,.cons r t=>.cons r (lK.snoc a t)
theorem lK.all{F:NK->Addr->Prop}:∀{xs:List NE} {ys:List (NK×Addr×Value)},lK xs ys->(∀p∈xs,F p.1 p.2.1)->∀q∈ys,F q.1 q.2.1
 | _,_,.nil,_=>λq b=>nomatch b
 | _,_,.cons (a:=x) r t,h=>λq b=>by
  rcases mem_cons.mp b with rfl | b
  .have:=h _ vq;rw[r.1,r.2.1]at this;exact this
  .exact lK.all t (λp c=>h p (vp _ c)) q b
theorem lK.si{k:NK}:∀{xs:List NE} {ys:List (NK×Addr×Value)},lK xs ys->(∀p,xs.find? (λp=>decide (p.1=k))=some p->∃u,atKey ys k=some (p.2.1,u)/\RelV p.2.2 u)/\(xs.find? (λp=>decide (p.1=k))=none->atKey ys k=none)
 | _,_,.nil=>⟨λp e=>by simp at e,λj=>rfl⟩
 | _,_,.cons (a:=x) (b:=y) (l₂:=m) r t=>by
  let⟨d,f⟩:=lK.si (k:=k) t;by_cases e:x.1=k
  .have c:y.1=k:=r.1▸e;refine⟨λp q=>?_,λq=>?_⟩
   .rw[List.find?_cons,vG e]at q;cases q;refine⟨y.2.2,?_,r.2.2⟩;unfold atKey
    simp_all
   simp_all
  .have c:¬y.1=k:=r.1▸e;have z:atKey (y::m) k=atKey m k:=by
    unfold atKey
    simp_all
   refine⟨λp q=>?_,λq=>?_⟩
   .rw[List.find?_cons,vH e]at q;rw[z];exact d p q
   .rw[List.find?_cons,vH e]at q;rw[z];exact f q
end
section
variable{X:Cx}
def oh(P:Program)(w:World):TE:=λj H Q=>∀p,H p=none->Q (.ref p) (upd H p (lV P w p []))
def HF{b:Pos}:PE X (.Dict [] [] b) (oh X.prog X.w):=λc s d H Q I h=>
 wpAny_Dict_empty ⟨.ref s.heap.objs.size,_,I.laid (a:=s.heap.objs.size) (o:=lV X.prog X.w s.heap.objs.size []) (t':=s.toks) (λj j q=>vJ _ q) (vb _)
  (DX (va _) (beq_eq_false_iff_ne.mpr (Ne.symm (vE I.big))) nodup_nil .nil (es:=#[]) (ep:=0) ⟨_,Heap.get?_push_size _ rfl,⟨rfl,rfl,rfl⟩,rfl⟩ rfl),rfl,h _ (I.cL.fresh (vb _))⟩
def IT{P:Program}{w:World}{a:St}{H:Hp}{Q:VK}(h:∀p,H p=none->Q (.ref p) (upd H p (lV P w p []))):oh P w a H Q:=h
def uU{b:Ny}{c:St}{H:Hp}{s:Shared}{a:Addr}{xs:List NE}(I:Inv X b c H s)(e:H a=some (lV X.prog X.w a xs)):⇑xs<=sizeLine/\(a==sysModules)=false/\(xs.map (·.1)).Nodup/\∃ys,lK xs ys/\∃es ep,fE s.heap a es ep/\es.toList=ys.map (entryOfKey (fK X.prog X.w)):=
 (show cD X.prog X.w H s.heap a (lV X.prog X.w a xs)from I.cL a _ e).1
def pV(P:Program)(w:World)(to:TE)(t:TA):TE:=λσ H Q=>to σ H λx H1=>∃a xs1,x = .ref a/\H1 a=some (lV P w a xs1)/\t σ H1 λvs H2=>∃(xs:List NE) (b:Addr) (k:NK) (v:V),vs=[.ref b,v]/\H2 a=some (lV P w a xs)/\(∀p∈xs,rh H2 p.2.1 p.1)/\rh H2 b k/\⇑xs<sizeLine/\
 (∀p,xs.find? (λp=>decide (p.1=k))=some p->Q p.2.2 H2)/\(xs.find? (λp=>decide (p.1=k))=none->Q v (upd H2 a (lV P w a (xs++[(k,b,v)]))))
def LV{o e:Expr}{es:Nt}{to:TE}{t:TA}{f c:Pos}(hu:X.A.units+64<cLine)(ho:PE X o to)(ha:PA X (e::es) t)
  (i:attributeBase o "setdefault" X.env (eval o X.env)=eval o X.env:=by rfl)
  (y:((backTo c (starEach (e::es) X.env)).all (λx=>!x.1)&&(backToKw c (keywordEach [] X.env)).all (λx=>x.1.isSome)
   && decide (⇑(e::es)+⇑([]:List Keyword)+(if([]:List Keyword).isEmpty then 0 else 1)<30))=true:=by rfl)
  (l:(f.endLine==c.line)=true:=by rfl) (hs:starEach (e::es) X.env=(false,eval e X.env)::starEach es X.env:=by rfl) (d:(backTo c (starEach es X.env)).any (·.1)=false:=by rfl) :
  PE X (.Call (.Attribute o "setdefault" f) (e::es) [] c) (pV X.prog X.w to t):=by
 intro g s σ H Q I h;refine wpAny_Call_method_late i y l rfl (cN (ho g s σ H _ I h) λv s1 z_=>?_);obtain⟨x,H1,W,r1,a,a2,ex,e1,q1⟩:=z_;subst ex;cases r1;let⟨_,_,_,_,_,_,_,C,_⟩:=uU W e1;refine⟨"dict","dict.setdefault",u4,PySem.F.slot_dict_setdefault,PySem.F.type_dict_setdefault,C.typeIs,λb eb=>?_,?_⟩
 .cases eb;let⟨ob,h1,h2,_⟩:=C;exact⟨ob,h1,h2.2.1⟩
 have hA:=ha c g s1 σ H1 _ W q1;rw[hs]at hA|-;refine Calls.callWith_builtin (by show(false||(backTo c (starEach es X.env)).any (·.1))=false;rw[d]<;>rfl) (Calls.evalArgs_plain ?_);refine cN hA λus T z_=>?_;obtain⟨vs,H2,w,r2,U,b,k,v,ev,Y,E,nb,z,f1,fCt⟩:=z_
 subst ev;cases r2 with
 | cons rb rr=>
  cases rb;let⟨u,rfl,ru⟩:=vals1 rr;let⟨z2,hd,hn,ys,r,J,ep,D,he⟩:=uU w Y;have T2:=D.typeIs;let⟨o2,P,K,M⟩:=D;have dd:T.heap.DictOfH (fK X.prog X.w) a ys:=⟨o2,J,ep,P,K,M,he,λq hq=>r.all (F:=λk b=>oA X.prog X.w T.heap k b) (λp n=>Ed w.cL (E p n)) q hq,by rw[r.keys];exact hn⟩
  have ln:=⇑r;let⟨Z,g2⟩:=r.si (k:=k);refine call_meetsIn PySem.F.slot_dict_setdefault T2 PySem.F.entry_dict_setdefault (PySem.F.args_dict_setdefault_3 _ _ _) (FR (knd:=fK X.prog X.w) a b hd u) ⟨by show X.A.units+1+60<cLine;lia,k,ys,Ed w.cL nb,dd,⋯,λp n=>?_,λno h' G R=>?_⟩
  .cases j:U.find? (λp=>decide (p.1=k))with
   | none=>rw[g2 j]at n;cases n
   | some p'=>
    let⟨u',m,S⟩:=Z p' j;rw[m]at n;cases n;exact⟨p'.2.2,H2,w.tok _,S,f1 p' j⟩
  .have j:U.find? (λp=>decide (p.1=k))=none:=by
    cases j:U.find? (λp=>decide (p.1=k))with
    | none=>rfl
    | some p'=>
     let⟨u',m,_⟩:=Z p' j;rw[m]at no;cases no
   let⟨o3,a1,a0,B,L,N,O,_,A⟩:=G;rw[vj,r.keys]at A;refine⟨v,_,Y1 (t':=T.toks+_) w (by rw[Y];exact True.intro) R ⟨_,B⟩ (DX (by rw[vn,vS];lia) hd (by rw[vj];exact A) (r.snoc ru) ⟨o3,B,L,N⟩ O),ru,fCt j⟩
def Ln{P:Program}{w:World}{e:TE}{t:TA}{d:St}{H:Hp}{Q:VK} (h:e d H λx H1=>∃a c,x = .ref a/\H1 a=some (lV P w a c)/\t d H1 λvs H2=>∃(xs:List NE) (b:Addr) (k:NK) (v:V),vs=[.ref b,v]/\H2 a=some (lV P w a xs)/\(∀p∈xs,rh H2 p.2.1 p.1)/\rh H2 b k/\⇑xs<sizeLine/\
 (∀p,xs.find? (λp=>decide (p.1=k))=some p->Q p.2.2 H2)/\(xs.find? (λp=>decide (p.1=k))=none->Q v (upd H2 a (lV P w a (xs++[(k,b,v)]))))):pV P w e t d H Q:=h
def Gy:dE X (.builtin "len") (λxs H Q=>∃a ys,xs=[V.ref a]/\H a=some (lV X.prog X.w a ys)/\Q (.int ⇑ys) H):=by
 intro f s E H xs B Q I r h;let⟨a,ys,rfl,i,q⟩:=h;let⟨u,rfl,w⟩:=vals1 r;cases w;let⟨z,l,A,C,v,j,x,c,n⟩:=uU I i;have T:=c.typeIs;let⟨o,p,y,b⟩:=c;have t:j.size=⇑ys:=by rw[<-Array.length_toList,n,vt,⇑v]
 have D:=sizeLine_eq;refine Calls.call_function_entry kind_len plain_len entry_len (args_len1 _) ?_;unfold Builtin.«len»;refine ud (m:=oneArg "len" _) (uc ?_);have d:wpAny (model X.prog X.w) X.A.in1 (callSpecial? (.ref a) (Str.ofString "__len__")) (λr g=>r=some (.int ⇑ys s.toks)/\g={s with toks:=s.toks+1}) X.xe s:=by
  refine wpAny_callSpecial?_slot (name:=Str.ofString "__len__") T F.slot_dict_len (wpAny_call_entry F.slot_dict_len T F.entry_dict_len ?_ (F.args_dict_len_1 _));show wpAny _ _ (dictSize a >>= _) _ _ s;unfold dictSize;refine ud (ud (wpAny_dictEntries p b (uc ?_)));show wpAny _ _ (Builtin.Dict.pendingCount a >>= _) _ _ s;refine ud (wpAny_pendingCount_other l ?_);refine wpAny_ret_mkInt ?_;rw[Nat.add_zero,t];exact⟨rfl,rfl⟩
 refine ud (wpAny_mono d (λr g k=>?_) λZ Z e=>e);let⟨rfl,rfl⟩:=k;show wpAny _ _ _ _ _ {s with toks:=s.toks+1};refine ud (wpAny_holding (uc ?_));refine ud (wpAny_letGo ?_);show wpAny _ _ (if((⇑ys:Nat):Int)<0 then _ else _) _ _ _;rw[vc ⋯];show wpAny _ _ (if((⇑ys:Nat):Int)>=2^63 then _ else _) _ _ _;rw[vc ⋯];exact ud (wpAny_mkInt (uc ⟨_,rfl,.int ⇑ys,H,I.tok _,⟨_,rfl⟩,q⟩))
def FN(D:X.calm=true):dE X (.type "list") (λxs H Q=>∃(a:Addr) (ys:List NE),xs=[.ref a]/\H a=some (lV X.prog X.w a ys)/\∀l,H l=none->Q (.ref l) (upd H l (.lst (ys.map λq=>.ref q.2.1)))):=by
 intro w s R H xs P Q I r h;let⟨a,ys,rfl,B,q⟩:=h;let⟨u,rfl,J⟩:=vals1 r;cases J;let⟨z,E,N,g,k,es,ep,m,o⟩:=uU I B;have G:es.size=⇑ys:=by rw[<-Array.length_toList,o,vt,⇑k]
 refine kdl_call (Mi (es:=es) (ep:=ep) E) (I.ok.hd D) m ⋯ λC L b A F M c=>?_
 have K:Vals (ys.map λq=>.ref q.2.1) b.toList:=Dl (by rw[Array.length_toList,vt,<-G];exact c.1) λj u O=>by
  let⟨e,d,rfl⟩:=c.2 j u (by simp_all);rw[<-Array.getElem?_toList,o,vv]at d;let⟨y,n,rfl⟩:=vg.mp d;have v:j<⇑ys:=by rw[⇑k];exact(vx.mp n).1
  have i:∀{xs:List NE} {g:List (NK×Addr×Value)} {j:Nat} {y:NK×Addr×Value} {x:NE},lK xs g->g[j]?=some y->xs[j]?=some x->x.2.1=y.2.1:=by
   intro xs g j y x p
   induction p generalizing j with
   | nil=>intro e;simp at e
   | cons r t ih=>
    cases j with
    | zero=>intro d f;simp at d f;subst d f;exact r.2.1
    | succ j=>intro d f;exact ih #v[d] #v[f]
  refine⟨.ref ys[j].2.1,by rw[vv,vz v];rfl,?_⟩;rw[i k n (vz v)];rfl
 refine⟨.ref s.heap.objs.size,_,I.laid (t':=L) F (vb _) (show cD X.prog X.w _ C _ (.lst (ys.map λq=>.ref q.2.1))from⟨by rw[vt];exact z,b.toList,A,K,by simp_all⟩),rfl,q _ (I.cL.fresh (vb _))⟩
def AX{K:cG}(e:X.K=K)(p:X.A.units+1<cLine):rf X (λx y H Q=>nU K x y H Q\/∃a v,x = .ref a/\dA H a y (some v)/\Q v H):=by
 subst e;intro c b d s n H x y v u Q I l m h k;rcases h with h | ⟨a,t,rfl,g,q⟩
 .exact jz c b d s n H x y v u Q I l m h k
 .cases l;have T:=wR I g;unfold subscriptTail;refine ud ?_;rw[getitemInPython_of_ne T.not_modules];refine ud (wpAny_specialOf T PySem.F.slot_dict_getitem.lookup ?_);have f:wpAny (model X.prog X.w) X.A (subscripted b false (.ref a) u) (λr i=>wpAny (model X.prog X.w) X.A (letTemporaryGo c (.ref a) r >>= λZ=>pure r) (EP X d n Q) X.xe i) X.xe s:=by
   rw[k];exact wpAny_operating (Xo p I g m λz w o j=>ud (wpAny_letTemporaryGo (uc ⟨t,H,o,j,q⟩)))
  first
   | exact uc (ud f)
   | exact ud (uc (ud f))
   | exact ud f
end
theorem pF{P:Program}{w:World}:∀{ks:L5} {us:L9},⇑us=⇑ks->(∀(j:Nat) (u:Value) (k:Int),us[j]?=some u->ks[j]?=some k->(cw P w).is (Sum.inl k) u=true)->IntsAre us ks
 | [],[],_,_=>.nil
 | [],_::_,h,_=>by simp at h
 | _::_,[],h,_=>by simp at h
 | k::ks,u::us,h,q=>by
  let⟨t,rfl⟩:=Value.isInt_shape (k:=k) (q 0 u k rfl rfl);exact .cons k t (pF (P:=P) (w:=w) #v[h] λj u k b a=>q (j+1) u k #v[b] #v[a])
def xJ{X:Cx}(U:X.calm=true):dE X (.builtin "sorted") (λxs H Q=>∃(d:Addr) (kvs:List (Key×V)) (ks:L5),xs=[.ref d]/\H d=some (.dK kvs)/\kvs.map (·.1)=ks.map Sum.inl/\⇑ks<64/\∀(l:Addr) (ms:L5),H l=none->ms.Perm ks->ms.Pairwise (·<=·)->Q (.ref l) (upd H l (.lst (ms.map V.int)))):=by
 intro J s σ H xs us Q I r h;let⟨d,kvs,ks,rfl,O,Z,R,q⟩:=h;let⟨u,rfl,ru⟩:=vals1 r;cases ru;let⟨z1,t,v,K,n⟩:=WN I.cL O;let⟨ep,p⟩:=n.dictAt;have F:⇑kvs=⇑ks:=by have:=congrArg List.length Z;rw[vt,vt]at this;exact this
 have vl:=⇑K;refine Calls.call_function_entry kind_sorted plain_sorted entry_sorted (args_sorted1 _) ?_;unfold Builtin.«sorted»;refine ud (m:=checkCount "sorted" 1 1 _) (uc ?_);refine ud (kdu_collect (A:=X.A.in1) (kdl_dict (knd:=cw X.prog X.w) (kvs:=v) (ep:=ep) t) (I.ok.hd U) p ⋯ λi tk a c f=>?_);have B:⇑a.toList=⇑ks:=by rw[Array.length_toList,f.1,<-vl,F]
 have S:IntsAre a.toList ks:=pF (P:=X.prog) (w:=X.w) B λj u k hu Y=>by
  let⟨k',x,e,a0⟩:=f.2 j u (by simp_all);have E:j<⇑kvs:=by rw[F];exact(vx.mp Y).1
  let⟨y,C,N,_⟩:=K.get (vz E);rw[e]at C;cases C;have e4:(kvs.map (·.1))[j]?=some k':=by rw[vv,vz E];exact congrArg some N
  simp_all
 refine ud (wpAny_newList ?_ (by rw[B,sizeLine_eq];lia));have g:(i.push (seqObj "list" a.toList.toArray 0)).get? i.objs.size=some (seqObj "list" a.toList.toArray 0):=Heap.get?_push_size _ rfl;refine ud (wpAny_holding (wpAny_call_entry slot_list_sort ⟨_,g,rfl⟩ entry_list_sort (list_sort_tree g S ⋯ λout ms L z M=>⟨_,rfl,?_⟩) (args_list_sort _)));refine uc ⟨_,rfl,?_⟩;have ml:⇑ms=⇑ks:=z.length_eq;have D:=I.mI c;have T:=I.tG c;have k2:∀b o,s.heap.get? b=some o->(sortedHeap (i.push (seqObj "list" a.toList.toArray 0)) i.objs.size a.toList out).get? b=some o:=λb o e=>by
  have G:=vI (c b o e);rw[sortedHeap_old (vE G) (by rw[size_push'];exact Nat.lt_succ_of_lt G)];exact vJ _ (c b o e)
 let⟨e',W⟩:=sortedHeap_at (out:=out) g;refine⟨.ref i.objs.size,_,(I.kept (t':=tk) k2).pW D T (show cD X.prog X.w _ _ _ (.lst (ms.map V.int))from⟨by simp_all,out.toList,_,Il L,by rw[Array.toArray_toList];exact W⟩),rfl,q _ ms D z M⟩
end L2
namespace Rm
open PySem PySem.Spec PyProof.Rows L2
inductive Gv where
 | nV (r:Bool) (vs:N2) | rise (x h n:V) | again (k x:V) | many (s:Bool) (xs:N2)
noncomputable def lI(H:Hp)(a:Addr):Gv->Prop
 | .nV r vs=>H a=some (.tup (.str (if r then "ring" else "hold")::vs))
 | .rise x h n=>H a=some (.tup [.str "raise",x,h,n])
 | .again k x=>H a=some (.tup [.str "again",k,x])
 | .many s xs=>∃b,H a=some (.tup [.str (if s then "side" else "row"),.ref b])/\H b=some (.tup xs)
def lI.same{H H':Hp}{a:Addr}{g:Gv}(s:cj H H')(h:lI H a g):lI H' a g:=by
 cases g with
 | nV r vs=>exact s _ _ h
 | rise x g n=>exact s _ _ h
 | again k x=>exact s _ _ h
 | many t xs=>let⟨b,c,d⟩:=h;exact⟨b,s _ _ c,s _ _ d⟩
def lI.eJ{H H':Hp}{a:Addr}{g:Gv}(s:∀b xs,H b=some (.tup xs)->H' b=some (.tup xs))(h:lI H a g):lI H' a g:=by
 cases g with
 | nV r vs=>exact s _ _ h
 | rise x g n=>exact s _ _ h
 | again k x=>exact s _ _ h
 | many t xs=>let⟨b,c,d⟩:=h;exact⟨b,s _ _ c,s _ _ d⟩
def Itm(H:Hp)(l:Addr)(x y:V):Prop:=(∃xs i,H l=some (.lst xs)/\x = .int i/\ft xs i=some y)\/dA H l x (some y)
def uJ{K:cG}{H:Hp}{l:Addr}{x y:V}{Q:VK}(h:Itm H l x y)(q:Q y H):nU K (.ref l) x H Q\/∃a v,V.ref l = .ref a/\dA H a x (some v)/\Q v H:=by
 rcases h with⟨b,i,e,rfl,h⟩ | h
 .exact .inl ⟨l,b,i,y,rfl,rfl,cm.of e,h,q⟩
 .exact .inr ⟨l,y,rfl,h,q⟩
def Itm.same{H H':Hp}{l:Addr}{x y:V}(s:cj H H')(h:Itm H l x y):Itm H' l x y:=by
 rcases h with⟨g,i,e,rfl,h⟩ | h
 .exact .inl ⟨g,i,s _ _ e,rfl,h⟩
 .refine .inr ?_;rcases h with⟨a,k,e,c,d⟩ | ⟨a,k,b,e,c,d,f⟩
  .exact .inl ⟨a,k,e.imp (λe=>s _ _ e) λ⟨o,e⟩=>⟨o,s _ _ e⟩,c,d⟩
  .exact .inr ⟨a,k,b,e.imp (λe=>s _ _ e) λ⟨o,e⟩=>⟨o,s _ _ e⟩,c,s _ _ d,f⟩
noncomputable def mj(H:Hp)(l p:Addr):Gv->Gv->Prop
 | .nV r vs,g=>g = .nV r vs
 | .rise x h n,g=>∃y,Itm H l x y/\g = .rise y h n
 | .again k x,g=>∃y,Itm H p x y/\g = .again k y
 | .many s xs,g=>∃ys,⇑ys=⇑xs/\(∀(i:Nat) (x y:V),xs[i]?=some x->ys[i]?=some y->Itm H p x y)/\⇑xs<=8/\g = .many s ys
inductive fN(vs:N2)(H:Hp)(Q:VK)(xk:XK):Prop
 | mk (a l p:Addr) (g g':Gv) (_:vs=[.ref a,.ref l,.ref p]) (_:lI H a g) (_:mj H l p g g') (_:∀(b:Addr) (H':Hp),cj H H'->lI H' b g'->Q (.ref b) H'):fN vs H Q xk
noncomputable def Gv.ns:Gv->N2
 | .again _ x=>[x]
 | .many _ xs=>xs
 | _=>[]
inductive fZ(vs:N2)(H:Hp)(Q:VK)(xk:XK):Prop
 | mk (a:Addr) (g:Gv) (_:vs=[.ref a]) (_:lI H a g) (_:∀(b:Addr) (H':Hp),cj H H'->H' b=some (.tup g.ns)->Q (.ref b) H'):fZ vs H Q xk
noncomputable def gF:Fm->Gv
 | .hold n=>.nV false [.int n]
 | .ring x n=>.nV true [.str x,.int n]
 | .rise x h n=>.rise (.str x) (.int h) (.int n)
 | .row ps=>.many false (ps.map V.str)
 | .side ps=>.many true (ps.map V.str)
 | .again k x=>.again (.int k) (.str x)
def WW{H:Hp}{a:Addr}{f:Fm}:cu H a f↔lI H a (gF f):=by
 cases f<;>exact Iff.rfl
inductive Dm where
 | hold (n:Int) | ring (x:Str) (n:Int) | rise (l:Nat) (h n:Int) | row (ps:L6) | side (ps:L6) | again (k:Int) (p:Nat)
 deriving DecidableEq
noncomputable def gD:Dm->Gv
 | .hold n=>.nV false [.int n]
 | .ring x n=>.nV true [.str x,.int n]
 | .rise l h n=>.rise (.int l) (.int h) (.int n)
 | .row ps=>.many false (ps.map vN)
 | .side ps=>.many true (ps.map vN)
 | .again k p=>.again (.int k) (.int p)
noncomputable def Dm.ns:Dm->L6
 | .row ps=>ps
 | .side ps=>ps
 | .again _ p=>[p]
 | _=>[]
def NA(d:Dm):(gD d).ns=d.ns.map vN:=by cases d<;>rfl
noncomputable def iK(n:Nat):Key:=Sum.inl (n:Int)
noncomputable def kD:Dm->NK
 | .hold n=>[Sum.inl (Sum.inr "hold"),Sum.inl (Sum.inl n)]
 | .ring x n=>[Sum.inl (Sum.inr "ring"),Sum.inl (Sum.inr x),Sum.inl (Sum.inl n)]
 | .rise l h n=>[Sum.inl (Sum.inr "raise"),Sum.inl (iK l),Sum.inl (Sum.inl h),Sum.inl (Sum.inl n)]
 | .row ps=>[Sum.inl (Sum.inr "row"),Sum.inr (ps.map iK)]
 | .side ps=>[Sum.inl (Sum.inr "side"),Sum.inr (ps.map iK)]
 | .again k p=>[Sum.inl (Sum.inr "again"),Sum.inl (Sum.inl k),Sum.inl (iK p)]
theorem Ae:∀{a b:L6},a.map iK=b.map iK->a=b
 | [],[],_=>rfl
 | [],_::_,h=>by simp at h
 | _::_,[],h=>by simp at h
 | x::a,y::b,h=>by
  rw[uw,uw]at h;injection h with h1 h2;have:(x:Int)=y:=Sum.inl.inj h1;rw[Ae h2,show x=y by lia]
def zO{x y:Str}{r s:NK}(h:(Sum.inl (Sum.inr x):NI)::r=Sum.inl (Sum.inr y)::s):x=y/\r=s:=by
 injection h with h1 h2;exact⟨Sum.inr.inj (Sum.inl.inj h1),h2⟩
def M3{d e:Dm}(h:kD d=kD e):d=e:=by
 cases d with
 | hold n=>
  cases e with
  | hold m=>
   have:=(zO h).2
   lia
  | _=>exact ub (zO h).1 ∅
 | ring x n=>
  cases e with
  | ring y m=>
   have:=(zO h).2
   lia
  | _=>exact ub (zO h).1 ∅
 | rise l v n=>
  cases e with
  | rise l' v' m=>
   have:=(zO h).2;injection this with h1 h2;injection h2 with h2 h3;injection h3 with h3;have e:(l:Int)=l':=Sum.inl.inj (Sum.inl.inj h1);rw[Sum.inl.inj (Sum.inl.inj h2),Sum.inl.inj (Sum.inl.inj h3),show l=l' by lia]
  | _=>exact ub (zO h).1 ∅
 | row ps=>
  cases e with
  | row qs=>
   have:=(zO h).2;injection this with h1;rw[Ae (Sum.inr.inj h1)]
  | _=>exact ub (zO h).1 ∅
 | side ps=>
  cases e with
  | side qs=>
   have:=(zO h).2;injection this with h1;rw[Ae (Sum.inr.inj h1)]
  | _=>exact ub (zO h).1 ∅
 | again k p=>
  cases e with
  | again k' p'=>
   have:=(zO h).2;injection this with h1 h2;injection h2 with h2;have e:(p:Int)=p':=Sum.inl.inj (Sum.inl.inj h2);rw[Sum.inl.inj (Sum.inl.inj h1),show p=p' by lia]
  | _=>exact ub (zO h).1 ∅
def Dk(ps:L6):(ps.map iK).map kV=ps.map vN:=by rw[uz];rfl
def D2{H:Hp}{a:Addr}{d:Dm}(h:lI H a (gD d)):rh H a (kD d):=by
 cases d with
 | hold n=>exact⟨_,h,.key (k:=Sum.inr "hold") (.key (k:=Sum.inl n) .nil)⟩
 | ring x n=>exact⟨_,h,.key (k:=Sum.inr "ring") (.key (k:=Sum.inr x) (.key (k:=Sum.inl n) .nil))⟩
 | rise l v n=>exact⟨_,h,.key (k:=Sum.inr "raise") (.key (k:=Sum.inl (l:Int)) (.key (k:=Sum.inl v) (.key (k:=Sum.inl n) .nil)))⟩
 | row ps=>let⟨b,c,e⟩:=h;exact⟨_,c,.key (k:=Sum.inr "row") (.tup (by rw[Dk];exact e) .nil)⟩
 | side ps=>let⟨b,c,e⟩:=h;exact⟨_,c,.key (k:=Sum.inr "side") (.tup (by rw[Dk];exact e) .nil)⟩
 | again k p=>exact⟨_,h,.key (k:=Sum.inr "again") (.key (k:=Sum.inl k) (.key (k:=Sum.inl (p:Int)) .nil))⟩
noncomputable def mD(lx px:L8)(ns:L6):Fm->Dm
 | .hold n=>.hold n
 | .ring x n=>.ring x n
 | .rise x h n=>.rise (cS lx x) h n
 | .row qs=>.row (qs.map λx=>ns∘(cS px x))
 | .side qs=>.side (qs.map λx=>ns∘(cS px x))
 | .again k x=>.again k (ns∘(cS px x))
noncomputable def dq(lx px:L8)(st:List Dm×L6)(p:Str×Fm):List Dm×L6:=
 let d:=mD lx px st.2 p.2
 if d∈st.1 then(st.1,st.2++[st.1.idxOf d])else(st.1++[d],st.2++[⇑st.1])
noncomputable def cx(lx px:L8)(ps:N1):List Dm×L6:=ps.foldl (dq lx px) ([],[])
def qN(lx px:L8)(ps:N1)(p:Str×Fm):cx lx px (ps++[p])=dq lx px (cx lx px ps) p:=by
 unfold cx;rw[foldl_append];rfl
structure vk(ks:List Dm)(ns:L6)(n:Nat):Prop where
 nd:ks.Nodup
 ln:⇑ns=n
 lk:⇑ks<=n
 lt:∀k∈ns,k<⇑ks
theorem wT(lx px:L8):∀(n:Nat) (ps:N1),⇑ps=n->vk (cx lx px ps).1 (cx lx px ps).2 n
 | 0,ps,h=>by
  rw[List.length_eq_zero_iff.mp h];exact⟨nodup_nil,rfl,vb _,λk h=>nomatch h⟩
 | n+1,ps,h=>by
  obtain⟨b,p,rfl⟩:∃b p,ps=b++[p]:=⟨ps.dropLast,ps.getLast (λz=>by rw[z]at h;cases h),(List.dropLast_concat_getLast _).symm⟩
  rw[vn,vS]at h;let⟨d,f,e,c⟩:=wT lx px n b ⋯;rw[qN];generalize cx lx px b=st at d f e c;unfold dq;dsimp only;split
  .rename_i hd;refine⟨d,by simp_all,by show ⇑st.1<=n+1;lia,λk a=>?_⟩;rcases vh.mp a with a | a
   .exact c k a
   .rw[vo.mp a];exact idxOf_lt_length_of_mem hd
  .rename_i hd;refine⟨nodup_append.mpr ⟨d,by simp,λx g y i z=>hd (by simp_all)⟩,by simp_all,by simp_all,λk a=>?_⟩;show k<⇑(st.1++[_]);rw[vn,vS];rcases vh.mp a with a | a
   .have:=c k a;lia
   .rw[vo.mp a];lia
def hU(H:Hp)(xs:List NE)(ks:List Dm):Prop:=⇑xs=⇑ks/\∀(i:Nat) (d:Dm),ks[i]?=some d->∃a,xs[i]?=some (kD d,a,.int i)/\lI H a (gD d)
def hU.eJ{H H':Hp}{xs:List NE}{ks:List Dm}(e:hU H xs ks)(s:∀b xs,H b=some (.tup xs)->H' b=some (.tup xs)):hU H' xs ks:=⟨e.1,λi d h=>let ⟨a,h1,h2⟩:=e.2 i d h;⟨a,h1,h2.eJ s⟩⟩
def hU.nat{H:Hp}{xs:List NE}{ks:List Dm}(e:hU H xs ks):∀p∈xs,rh H p.2.1 p.1:=λp g=>by
 let⟨i,f,c⟩:=mem_iff_getElem.mp g;have l:=e.1;let⟨a,b,d⟩:=e.2 i _ (vz ⋯);rw[vz f,c]at b;cases b;exact D2 d
def hU.snoc{H:Hp}{xs:List NE}{ks:List Dm}(e:hU H xs ks){a:Addr}{d:Dm}(h:lI H a (gD d)):hU H (xs++[(kD d,a,.int (⇑ks:Nat))]) (ks++[d]):=by
 have l:=e.1;refine⟨by simp_all,λi f b=>?_⟩;rcases Nat.lt_or_ge i ⇑ks with z | z
 .rw[vB z]at b;let⟨c,j,k⟩:=e.2 i f b;exact⟨c,by rw[vB ⋯];exact j,k⟩
 .rw[vC z]at b;have g:i=⇑ks:=by
   have:=(vx.mp b).1;rw[vS]at this;lia
  subst g;rw[Nat.sub_self]at b;cases b;exact⟨a,by rw[<-l,vC (vb _),Nat.sub_self];rfl,h⟩
def hU.found{H:Hp}{xs:List NE}{ks:List Dm}{d:Dm}(e:hU H xs ks)(r:ks.Nodup) :
  (∀p,xs.find? (λp=>decide (p.1=kD d))=some p->d∈ks/\p.2.2 = .int (ks.idxOf d:Nat))/\(xs.find? (λp=>decide (p.1=kD d))=none->d∉ks):=by
 have l:=e.1;refine⟨λp j=>?_,λq o=>?_⟩
 .have k:=List.find?_some j;have m:=List.mem_of_find?_eq_some j;let⟨i,f,c⟩:=mem_iff_getElem.mp m;have g:i<⇑ks:=⋯
  let⟨a,b,n⟩:=e.2 i _ (vz g);rw[vz f,c]at b;cases b;have h:ks[i]=d:=M3 (of_decide_eq_true k);refine⟨h▸getElem_mem g,?_⟩;show V.int _=V.int _;rw[<-h,r.idxOf_getElem i g]
 .let⟨i,f,c⟩:=mem_iff_getElem.mp o;let⟨a,b,n⟩:=e.2 i _ (vz f);have:=List.find?_eq_none.mp q _ (vm b);rw[c]at this;exact this (vG rfl)
noncomputable def gu(xs:L8)(ns:L6):List (Key×V):=(xs.zip ns).map λq=>(Sum.inr q.1,vN q.2)
def XE{xs:L8}{a:L6}{x:Str}{n:Nat}(h:⇑xs=⇑a):gu (xs++[x]) (a++[n])=gu xs a++[(Sum.inr x,vN n)]:=by
 unfold gu;rw[List.zip_append h,vj];rfl
def HB{xs:L8}{a:L6}(h:⇑xs=⇑a):⇑(gu xs a)=⇑xs:=by
 unfold gu
 simp_all
def XD{xs:L8}{a:L6}(h:⇑xs=⇑a):(gu xs a).map (·.1)=xs.map Sum.inr:=by
 unfold gu;rw[uz];show(xs.zip a).map (λq=>Sum.inr q.1)=_;rw[show(λq:Str×Nat=>(Sum.inr q.1:Key))=Function.comp Sum.inr Prod.fst from rfl,<-uz,List.map_fst_zip ⋯]
def hQ(H:Hp)(as:L7)(ks:List Dm):Prop:=cn (λa d=>lI H a (gD d)) as ks
inductive lG(vs:N2)(H:Hp)(Q:VK)(xk:XK):Prop
 | mk (b pl pp:Addr) (las pas:L7) (ls:L4) (ps:N1) (_:vs=[.ref b]) (_:dt H b pl pp las pas ls ps) (_:eE ls ps) (_:1<=⇑ps) (_:∀(t f:Addr) (fas:L7) (H':Hp),cj H H'->H' t=some (.tup [.ref f,vN ((cx (cb ls) (cb ps) ps).2.getD (⇑ps-1) 0)])->H' f=some (.lst (fas.map V.ref))->hQ H' fas (cx (cb ls) (cb ps) ps).1->Q (.ref t) H'):lG vs H Q xk
def CA{xs:L8}{a:L6}(h:⇑xs=⇑a)(b:xs.Nodup){j:Nat}{x:Str}(e:xs[j]?=some x):eK (gu xs a) (Sum.inr x)=some (vN (a∘j)):=by
 have c:=(vx.mp e).1;refine xE (j:=j) (by rw[XD h];exact pairwise_map.mpr (b.imp λh e=>h (Sum.inr.inj e))) ?_;unfold gu
 simp_all
def D9{H:Hp}{d:Addr}{px:L8}{a:L6}{i:Nat}(hi:i<=⇑px)(h:⇑a=i)(c:px.Nodup)(e:H d=some (.dK (gu (px.take i) a))){x:Str}{j:Nat}(f:j<i)(b:px[j]?=some x):Itm H d (.str x) (vN (a∘(cS px x))):=by
 rw[Je c b];refine .inr ?_;have g:=dA.k (k:=Sum.inr x) e;rw[CA (j:=j) (by rw[vi];lia) (List.Nodup.sublist (take_sublist _ _) c) (by rw[List.getElem?_take,vd f];exact b)]at g;exact g
def HU{H:Hp}{d l:Addr}{ls:L4}{ps:N1}{e:L6}{i:Nat}{p:Str×Fm}(W:eE ls ps)(o:ps[i]?=some p)(t:⇑e=i)(C:H d=some (.dK (gr (cb ls))))(r:H l=some (.dK (gu ((cb ps).take i) e))) :
  mj H d l (gF p.2) (gD (mD (cb ls) (cb ps) e p.2)):=by
 have G:=(vx.mp o).1;have A:i<=⇑(cb ps):=by rw[cb,vt];lia
 let⟨q,B⟩:=W.f i p o;have b:∀(s:Bool) (a:L8),(∀x∈a,∃j,j<i/\(cb ps)[j]?=some x)->⇑a<=8->mj H d l (.many s (a.map V.str)) (.many s ((a.map λx=>e∘(cS (cb ps) x)).map vN)):=λs a D F=>by
  refine⟨_,by simp_all,λk x y u v=>?_,by simp_all,rfl⟩;rw[vv]at u;let⟨z,w,rfl⟩:=vg.mp u;rw[vv,vv,w]at v;cases v;let⟨j,c,m⟩:=D z (vm w);exact D9 A t W.pn r c m
 let⟨E,f⟩:=p;cases f with
 | hold n=>rfl
 | ring x n=>rfl
 | rise x h n=>
  let⟨j,c⟩:=W.r i E x h n o;refine⟨vN j,.inr ?_,?_⟩
  .have g:=dA.k (k:=Sum.inr x) C;rw[YF W.ln c]at g;exact g
  .show Gv.rise (.int (cS (cb ls) x:Nat)) _ _=_;rw[Je W.ln c];rfl
 | row a=>exact b false a q B
 | side a=>exact b true a q B
 | again k x=>
  let⟨j,c,m⟩:=q x vq;exact⟨_,D9 A t W.pn r c m,rfl⟩
def DW{xs:N2}{n:Nat}{v:V}(h:1<=n)(e:⇑xs=n)(a:xs[n-1]?=some v):ft xs (-1)=some v:=by
 have:xs=xs.take (n-1)++[v]:=by
  rw[<-take_snoc a,show n-1+1=⇑xs by lia,v8]
 rw[this];exact GU _ _
def hQ.of{H:Hp}{xs:List NE}{ks:List Dm}(e:hU H xs ks):hQ H (xs.map λq=>q.2.1) ks:=by
 refine⟨by rw[vt];exact e.1,λi a d h b=>?_⟩;let⟨c,f,g⟩:=e.2 i d b
 simp_all
inductive Rc(ks:List Dm)(t:Nat):Nat->Prop
 | top:Rc ks t t
 | sub {y x:Nat}:Rc ks t y->x∈(ks.getD y (.hold 0)).ns->Rc ks t x
structure pb(ks:List Dm):Prop where
 lt:∀(i:Nat) (d:Dm),ks[i]?=some d->∀j∈d.ns,j<i
 l8:∀d∈ks,⇑d.ns<=8
def pb.get{ks:List Dm}(D:pb ks){i j:Nat}(h:j∈(ks.getD i (.hold 0)).ns):j<i/\i<⇑ks:=by
 rw[vy]at h;cases e:ks[i]? with
 | none=>rw[e]at h;exact nomatch h
 | some d=>rw[e]at h;exact⟨D.lt i d e j h,(vx.mp e).1⟩
def Rc.le{ks:List Dm}{t x:Nat}(D:pb ks)(h:Rc ks t x):x<=t:=by
 induction h with
 | top=>exact vb _
 | sub _ hm ih=>have:=(D.get hm).1;lia
def EM(lx px:L8)(a:L6)(f:Fm):(mD lx px a f).ns=f.ns.map λx=>a∘(cS px x):=by cases f<;>rfl
theorem Ej{ls:L4}{ps:N1}(W:eE ls ps):∀n,n<=⇑ps->pb (cx (cb ls) (cb ps) (ps.take n)).1
 | 0,_=>⟨λi d h=>by simp[cx]at h,λd h=>by simp[cx]at h⟩
 | n+1,hn=>by
  have g:ps[n]?=some ps[n]:=vz hn;let⟨f,e⟩:=Ej W n ⋯;have M:=wT (cb ls) (cb ps) n (ps.take n) (by rw[vi];lia);rw[take_snoc g,qN];generalize cx (cb ls) (cb ps) (ps.take n)=st at f e M;let⟨q,p⟩:=W.f n _ g;unfold dq;dsimp only;split
  .exact⟨f,e⟩
  .refine⟨λi d h j b=>?_,λd a=>?_⟩
   .rcases Nat.lt_or_ge i ⇑st.1 with z | z
    .rw[vB z]at h;exact f i d h j b
    .rw[vC z]at h;have l:i-⇑st.1=0:=by
      have:=(vx.mp h).1;rw[vS]at this;lia
     rw[l]at h;cases h;rw[EM]at b;let⟨x,o,rfl⟩:=vK.mp b;let⟨k,c,m⟩:=q x o;rw[Je W.pn m,vy,vz (by rw[M.ln];exact c)];have:=M.lt _ (getElem_mem (by rw[M.ln];exact c):st.2[k]'(by rw[M.ln];exact c)∈st.2);show st.2[k]'_<i;lia
   .rcases vh.mp a with a | a
    .exact e d a
    .rw[vo.mp a,EM,vt];exact p
noncomputable def lC(S:L6)(x:Nat):L6:=if x∈S then S else S++[x]
noncomputable def lu(S xs:L6):L6:=xs.foldl lC S
def HY{S:L6}{x y:Nat}:y∈lC S x↔y∈S\/y=x:=by
 unfold lC;split
 .rename_i h;exact⟨.inl,λz=>z.elim id λe=>e▸h⟩
 .simp
theorem Zt:∀{xs S:L6} {y:Nat},y∈lu S xs↔y∈S\/y∈xs
 | [],S,y=>by simp[lu]
 | x::xs,S,y=>by
  show y∈lu (lC S x) xs↔_;rw[Zt,HY,mem_cons,or_assoc]
def LM{S:L6}(c:S.Nodup)(x:Nat):(lC S x).Nodup:=by
 unfold lC;split
 .exact c
 .rename_i h;exact nodup_append.mpr ⟨c,by simp,λa d b e z=>h (by rw[<-vo.mp e,<-z];exact d)⟩
def Gp(S xs:L6)(x:Nat):lu S (xs++[x])=lC (lu S xs) x:=by
 unfold lu;rw[foldl_append];rfl
def KySet(kvs:List (Key×V))(S:L6):Prop:=kvs.map (·.1)=S.map iK/\S.Nodup
def AU{a b:Nat}(h:iK a=iK b):a=b:=by
 have:(a:Int)=b:=Sum.inl.inj h;lia
def KySet.mem{kvs:List (Key×V)}{S:L6}(h:KySet kvs S){x:Nat}:(eK kvs (iK x)).isSome=decide (x∈S):=by
 have e:iK x∈kvs.map (·.1)↔x∈S:=by
  rw[h.1];exact⟨λz=>let ⟨y,hy,e⟩:=vK.mp z;(AU e)▸hy,λz=>vK.mpr ⟨x,z,rfl⟩⟩
 cases v:eK kvs (iK x)with
 | none=>exact(vH λz=>La v (e.mpr z)).symm
 | some y=>exact(vG (e.mp (LF v))).symm
def KySet.put{kvs:List (Key×V)}{S:L6}(h:KySet kvs S)(x:Nat)(v:V):KySet (putK kvs (iK x) v) (lC S x):=by
 refine⟨?_,LM h.2 x⟩;have m:=h.mem (x:=x);unfold putK lC;rw[YX,m];by_cases z:x∈S
 .rw[vG z,vd rfl,vd z,uz,<-h.1];refine map_congr_left λq j=>?_
  show(if q.1=iK x then(q.1,v)else q).1=q.1;split<;>rfl
 .rw[vH z,vc vF,vc z,vj,vj,h.1];rfl
def KySet.len{kvs:List (Key×V)}{S:L6}(h:KySet kvs S):⇑kvs=⇑S:=by
 have:=congrArg List.length h.1
 simp_all
theorem Dg{d:Type}[DecidableEq d]:∀{l m:List d},l.Nodup->(∀x∈l,x∈m)->⇑l<=⇑m
 | [],m,_,_=>va _
 | a::l,m,nd,h=>by
  rw[ug]at nd;have b:=h a vq;have:=Dg (l:=l) (m:=m.erase a) nd.2 λx c=>(List.mem_erase_of_ne (λz:x=a=>nd.1 (by rw[<-z];exact c))).mpr (h x (vp _ c))
  rw[List.length_erase_of_mem b]at this;have:=List.length_pos_of_mem b;rw[vQ];lia
def An{S:L6}{n:Nat}(b:S.Nodup)(h:∀x∈S,x<n):⇑S<=n:=by
 have:=Dg (m:=List.range n) b λx a=>v7.mpr (h x a)
 simp_all
structure j1(ks:List Dm)(t i:Nat)(S:L6):Prop where
 rc:∀x∈S,Rc ks t x
 tp:t∈S
 cl:∀y∈S,t<y+i->∀j∈(ks.getD y (.hold 0)).ns,j∈S
def j1.all{ks:List Dm}{t:Nat}{S:L6}(c:j1 ks t (t+1) S){x:Nat}:x∈S↔Rc ks t x:=by
 refine⟨c.rc x,λh=>?_⟩
 induction h with
 | top=>exact c.tp
 | sub _ hm ih=>exact c.cl _ ih ⋯ _ hm
def j1.yes{ks:List Dm}{t i y:Nat}{S:L6}(D:pb ks)(c:j1 ks t i S)(d:y∈S)(e:y+i=t):j1 ks t (i+1) (lu S (ks.getD y (.hold 0)).ns):=by
 refine⟨λx b=>?_,Zt.mpr (.inl c.tp),λz f k j a=>?_⟩
 .rcases Zt.mp b with h | h
  .exact c.rc x h
  .exact .sub (c.rc y d) h
 .rcases Zt.mp f with h | h
  .by_cases g:z=y
   .subst g;exact Zt.mpr (.inr a)
   .exact Zt.mpr (.inl (c.cl z h ⋯ j a))
  .have:=(D.get h).1;lia
def j1.no{ks:List Dm}{t i y:Nat}{S:L6}(c:j1 ks t i S)(d:y∉S)(e:y+i=t):j1 ks t (i+1) S:=
 ⟨c.rc,c.tp,λz a f j b=>c.cl z a (by have:z≠y:=λe=>d (e▸a);lia) j b⟩
theorem DB:∀{ms:L5},(∀m∈ms,0<=m)->∃a:L6,ms=a.map (λn:Nat=>(n:Int))
 | [],_=>⟨[],rfl⟩
 | m::ms,h=>by
  let⟨a,e⟩:=DB (ms:=ms) λx b=>h x (vp _ b)
  have:=h m vq;exact⟨m.toNat::a,by rw[uw,<-e,show((m.toNat:Nat):Int)=m by lia]⟩
def Fx{ms:L5}{S:L6}(p:ms.Perm (S.map λn:Nat=>(n:Int)))(o:ms.Pairwise (·<=·))(i:S.Nodup):∃a:L6,ms.map V.int=a.map vN/\a.Pairwise (· < ·)/\∀x,x∈a↔x∈S:=by
 let⟨a,rfl⟩:=DB (ms:=ms) λm g=>by
  let⟨n,Z,rfl⟩:=vK.mp (p.mem_iff.mp g);exact Int.natCast_nonneg n
 have c:∀x,x∈a↔x∈S:=λx=>by
  constructor
  .intro h;let⟨y,b,e⟩:=vK.mp (p.mem_iff.mp (vK.mpr ⟨x,h,rfl⟩));have:y=x:=⋯
   exact this▸b
  .intro h;let⟨y,b,e⟩:=vK.mp (p.mem_iff.mpr (vK.mpr ⟨x,h,rfl⟩));have:y=x:=⋯
   exact this▸b
 have d:(S.map λn:Nat=>(n:Int)).Nodup:=pairwise_map.mpr (i.imp λh e=>h ⋯);have f:=pairwise_map.mp (p.nodup_iff.mpr d);refine⟨a,by rw[uz];rfl,?_,c⟩;exact((pairwise_map.mp o).and f).imp λ⟨j,k⟩=>⋯
inductive lF(vs:N2)(H:Hp)(Q:VK)(xk:XK):Prop
 | mk (f:Addr) (fas:L7) (ks:List Dm) (t:Nat) (_:vs=[.ref f,vN t]) (_:H f=some (.lst (fas.map V.ref))) (_:hQ H fas ks) (_:pb ks) (_:t<⇑ks) (_:⇑ks<=61) (_:∀(l:Addr) (ms:L6) (H':Hp),cj H H'->H l=none->H' l=some (.lst (ms.map vN))->ms.Pairwise (· < ·)->(∀x,x∈ms↔Rc ks t x)->Q (.ref l) H'):lF vs H Q xk
noncomputable def rN(P:Nat->Nat):Dm->Dm
 | .row ps=>.row (ps.map P)
 | .side ps=>.side (ps.map P)
 | .again k p=>.again k (P p)
 | d=>d
noncomputable def cX(ks:List Dm)(ms:L6):List Dm:=ms.map λk=>rN (λn=>ms.idxOf n) (ks.getD k (.hold 0))
def rg(ks:List Dm)(n:Nat):Prop:=∀d∈ks,∀l h b,d = .rise l h b->l<n
theorem ED{ls:L4}{ps:N1}(W:eE ls ps):∀n,n<=⇑ps->rg (cx (cb ls) (cb ps) (ps.take n)).1 ⇑ls
 | 0,_=>λd h=>by simp[cx]at h
 | n+1,hn=>by
  have g:ps[n]?=some ps[n]:=vz hn;have i:=ED W n ⋯;rw[take_snoc g,qN];generalize cx (cb ls) (cb ps) (ps.take n)=st at i;unfold dq;dsimp only;split
  .exact i
  .intro d a l h b e;rcases vh.mp a with a | a
   .exact i d a l h b e
   .rw[vo.mp a]at e;generalize r:ps[n]=p at e g;let⟨q,f⟩:=p;cases f with
    | rise x v m=>
     let⟨j,o⟩:=W.r n q x v m g;have c:(Dm.rise (cS (cb ls) x) v m) = .rise l h b:=e;injection c with c;rw[<-c,Je W.ln o];have:=(vx.mp o).1;rw[cb,vt]at this;exact this
    | hold n=>cases e
    | ring x n=>cases e
    | row qs=>cases e
    | side qs=>cases e
    | again k x=>cases e
noncomputable def ij(ms:L6):List (Key×V):=ms.zipIdx.map λp=>(iK p.1,vN p.2)
def G9(ms:L6)(m:Nat):ij (ms++[m])=ij ms++[(iK m,vN ⇑ms)]:=by
 unfold ij;rw[List.zipIdx_append,vj];simp
def Hy(ms:L6):⇑(ij ms)=⇑ms:=by simp[ij]
def XB(ms:L6):(ij ms).map (·.1)=ms.map iK:=by
 unfold ij;rw[uz];have e:∀(k:Nat) (a:L6),(a.zipIdx k).map (Function.comp (λx=>x.1) λp:Nat×Nat=>(iK p.1,vN p.2))=a.map iK:=λk a=>by
  induction a generalizing k with
  | nil=>rfl
  | cons x r ih=>simp_all
 exact e 0 ms
def Hz{ms:L6}(a:ms.Nodup){m:Nat}(h:m∈ms):eK (ij ms) (iK m)=some (vN (ms.idxOf m)):=by
 refine xE (j:=ms.idxOf m) (by rw[XB];exact pairwise_map.mpr (a.imp λh e=>h (AU e))) ?_;unfold ij;have b:=idxOf_lt_length_of_mem h
 simp_all
def Bf{ms:L6}(h:ms.Pairwise (· < ·)):ms.Nodup:=h.imp λh=>vE h
def ME{H:Hp}{l an:Addr}{n:Nat}{ms:L6}{d:Dm}(o:H l=some (.lst ((List.range n).map vN)))(m:H an=some (.dK (ij ms)))(C:ms.Nodup)(t:∀k h b,d = .rise k h b->k<n)(v:∀j∈d.ns,j∈ms)(e:⇑d.ns<=8) :
  mj H l an (gD d) (gD (rN (λn=>ms.idxOf n) d)):=by
 have i:∀j∈d.ns,Itm H an (vN j) (vN (ms.idxOf j)):=λj q=>by
  refine .inr ?_;have g:=dA.k (k:=iK j) m;rw[Hz C (v j q)]at g;exact g
 have c:∀(s:Bool) (a:L6),(∀j∈a,j∈d.ns)->⇑a<=8->mj H l an (.many s (a.map vN)) (.many s ((a.map λn=>ms.idxOf n).map vN)):=λs a w e=>by
  refine⟨_,by simp_all,λk x y A f=>?_,by simp_all,rfl⟩;let⟨z,B,rfl,u⟩:=tm A;rw[vv,vv,B]at f;cases f;exact i z (w z u)
 cases d with
 | hold n=>rfl
 | ring x n=>rfl
 | rise k h b=>
  have r:=t k h b rfl;exact⟨.int (k:Nat),.inl ⟨_,_,o,rfl,L2.jS (j:=k) (by rw[vv,List.getElem?_range r];rfl)⟩,rfl⟩
 | row a=>exact c false a (λj h=>h) e
 | side a=>exact c true a (λj h=>h) e
 | again k p=>exact⟨_,i p vq,rfl⟩
noncomputable def ip(ls:L4)(ps:N1):Nat:=(cx (cb ls) (cb ps) ps).2.getD (⇑ps-1) 0
noncomputable def cP(ls:L4)(ps:N1):List Dm:=(cx (cb ls) (cb ps) ps).1
def Kept(ls:L4)(ps:N1)(ms:L6):Prop:=ms.Pairwise (· < ·)/\∀x,x∈ms↔Rc (cP ls ps) (ip ls ps) x
inductive iJ(vs:N2)(H:Hp)(Q:VK)(xk:XK):Prop
 | mk (b pl pp:Addr) (las pas:L7) (ls:L4) (ps:N1) (_:vs=[.ref b]) (_:dt H b pl pp las pas ls ps) (_:eE ls ps) (_:1<=⇑ps) (_:∀(t l f:Addr) (das:L7) (ms:L6) (H':Hp),cj H H'->H' t=some (.tup [.ref l,.ref f])->H' l=some (.lst (las.map V.ref))->H' f=some (.lst (das.map V.ref))->H l=none->H f=none->l≠f->hQ H' das (cX (cP ls ps) ms)->Kept ls ps ms->Q (.ref t) H'):iJ vs H Q xk
structure gk(ls:L4)(ps:N1):Prop where
 dw:pb (cP ls ps)
 lm:rg (cP ls ps) ⇑ls
 nd:(cP ls ps).Nodup
 rA:⇑(cP ls ps)<=61
 tp:ip ls ps<⇑(cP ls ps)
def Ai{ls:L4}{ps:N1}(W:eE ls ps)(a:1<=⇑ps):gk ls ps:=by
 have M:=wT (cb ls) (cb ps) ⇑ps ps rfl;have d:=Ej W ⇑ps (vb _);have l:=ED W ⇑ps (vb _);rw[v8]at d l;refine⟨d,l,M.nd,vW M.lk W.mJ,M.lt _ ?_⟩;unfold ip;rw[vy,vz (by rw[M.ln];lia)];exact getElem_mem _
def Kept.lt{ls:L4}{ps:N1}{ms:L6}(K:Kept ls ps ms)(O:gk ls ps){x:Nat}(h:x∈ms):x<=ip ls ps:=((K.2 x).mp h).le O.dw
def Kept.len{ls:L4}{ps:N1}{ms:L6}(K:Kept ls ps ms)(O:gk ls ps):⇑ms<=61:=by
 have:=An (n:=ip ls ps+1) (Bf K.1) λx a=>by have:=K.lt O a;lia
 have:=O.tp;have:=O.rA;lia
def Kept.sub{ls:L4}{ps:N1}{ms:L6}(K:Kept ls ps ms){x j:Nat}(h:x∈ms)(a:j∈((cP ls ps).getD x (.hold 0)).ns):j∈ms:=(K.2 j).mpr (.sub ((K.2 x).mp h) a)
def Lz{lx px:L8}{st:List Dm×L6}{p:Str×Fm}:∃j,(dq lx px st p).2=st.2++[j]/\(dq lx px st p).1[j]?=some (mD lx px st.2 p.2)/\∀m,m<j->(dq lx px st p).1[m]?≠some (mD lx px st.2 p.2):=by
 unfold dq;dsimp only;split
 .rename_i hd;refine⟨_,rfl,?_,λm a e=>?_⟩
  .have b:=idxOf_lt_length_of_mem hd;rw[vz b,getElem_idxOf b]
  .let⟨d,c⟩:=vx.mp e;have:=List.not_of_lt_findIdx (p:=(· == mD lx px st.2 p.2)) (xs:=st.1) a;rw[c]at this;simp at this
 .rename_i hd;refine⟨_,rfl,by rw[vC (vb _),Nat.sub_self];rfl,λm a e=>hd ?_⟩;rw[vB a]at e;exact vm e
def AV{ms:L6}{x:Nat}(h:x∈ms):ms[ms.idxOf x]?=some x/\∀m,m<ms.idxOf x->ms[m]?≠some x:=by
 refine⟨?_,λm c e=>?_⟩
 .have a:=idxOf_lt_length_of_mem h;rw[vz a,getElem_idxOf a]
 .let⟨d,b⟩:=vx.mp e;have:=List.not_of_lt_findIdx (p:=(· == x)) (xs:=ms) c;rw[b]at this;simp at this
def uW(P:Nat->Nat)(d:Dm):(rN P d).ns=d.ns.map P:=by cases d<;>rfl
def Lf{ls:L4}{ps:N1}{ms:L6}(O:gk ls ps)(K:Kept ls ps ms):∀d∈cX (cP ls ps) ms,⇑d.ns<=8:=λd a=>by
 let⟨k,b,rfl⟩:=vK.mp a;rw[uW,vt];have:=K.lt O b;have:=O.tp;rw[vy,vz ⋯];exact O.dw.l8 _ (getElem_mem _)
noncomputable def iu(n:Nat):Str:=if n<26 then⟨#[97+n]⟩else⟨#[97+n/26,97+n%26]⟩
def Cs:Sp:=λvs H Q j=>∃n:Nat,vs=[.int (n:Nat)]/\n<676/\Q (.str (iu n)) H
noncomputable def oI(lx:L8):Dm->Fm
 | .hold n=>.hold n
 | .ring x n=>.ring x n
 | .rise l h n=>.rise (lx.getD l ⟨#[]⟩) h n
 | .row ps=>.row (ps.map iu)
 | .side ps=>.side (ps.map iu)
 | .again k p=>.again k (iu p)
noncomputable def eM(ls:L4)(ks:List Dm):N1:=(List.range ⇑ks).map λi=>(iu i,oI (cb ls) (ks.getD i (.hold 0)))
def yH(ls:L4)(ks:List Dm):⇑(eM ls ks)=⇑ks:=by unfold eM;rw[vt,length_range]
def Ax{ls:L4}{ks:List Dm}{i:Nat}{d:Dm}(h:ks[i]?=some d):(eM ls ks)[i]?=some (iu i,oI (cb ls) d):=by
 unfold eM;rw[vv,List.getElem?_range (vx.mp h).1];show some (iu i,oI (cb ls) (ks.getD i _))=_;rw[vy,h];rfl
structure j0(ls:L4)(ks:List Dm):Prop where
 dw:pb ks
 lm:rg ks ⇑ls
 rA:⇑ks<=61
 l8:⇑ls<=8
def Mn{H:Hp}{l p:Addr}{ls:L4}{d:Dm}{n:Nat}(m:H l=some (.lst ((cb ls).map V.str)))(ep:H p=some (.lst ((List.range n).map λi=>V.str (iu i))))(t:∀k h b,d = .rise k h b->k<⇑ls)(v:∀j∈d.ns,j<n)(e:⇑d.ns<=8) :
  mj H l p (gD d) (gF (oI (cb ls) d)):=by
 have g:∀j∈d.ns,Itm H p (vN j) (.str (iu j)):=λj o=>.inl ⟨_,_,ep,rfl,L2.jS (j:=j) (by rw[vv,List.getElem?_range (v j o)];rfl)⟩
 have c:∀(s:Bool) (a:L6),(∀j∈a,j∈d.ns)->⇑a<=8->mj H l p (.many s (a.map vN)) (.many s ((a.map iu).map V.str)):=λs a w e=>by
  refine⟨_,by simp_all,λk x y A f=>?_,by simp_all,rfl⟩;let⟨z,B,rfl,u⟩:=tm A;rw[vv,vv,B]at f;cases f;exact g z (w z u)
 cases d with
 | hold n=>rfl
 | ring x n=>rfl
 | rise k h b=>
  have q:=t k h b rfl;have r:k<⇑(cb ls):=by rw[cb,vt];exact q
  refine⟨.str ((cb ls).getD k ⟨#[]⟩),.inl ⟨_,_,m,rfl,L2.jS (j:=k) ?_⟩,rfl⟩
  simp_all
 | row a=>exact c false a (λj h=>h) e
 | side a=>exact c true a (λj h=>h) e
 | again k p=>exact⟨_,g p vq,rfl⟩
inductive gX(vs:N2)(H:Hp)(Q:VK)(xk:XK):Prop
 | mk (bx l f:Addr) (las das:L7) (ls:L4) (ks:List Dm) (_:vs=[.ref bx]) (_:H bx=some (.tup [.ref l,.ref f])) (_:H l=some (.lst (las.map V.ref))) (_:cn (eU H) las ls) (_:H f=some (.lst (das.map V.ref))) (_:hQ H das ks) (_:j0 ls ks) (_:∀(b pl pp:Addr) (pas:L7) (H':Hp),cj H H'->dt H' b pl pp las pas ls (eM ls ks)->H pl=none->H pp=none->pl≠pp->Q (.ref b) H'):gX vs H Q xk
def MY{ms:L6}(h:ms.Pairwise (· < ·)){i n m:Nat}(hi:ms[i]?=some m)(f:n∈ms)(d:n<m):ms.idxOf n<i:=by
 have b:=idxOf_lt_length_of_mem f;have e:=getElem_idxOf b;let⟨c,a⟩:=vx.mp hi;rcases Nat.lt_or_ge (ms.idxOf n) i with z | z
 .exact z
 .rcases Nat.lt_or_ge i (ms.idxOf n)with w | w
  .have:=pairwise_iff_getElem.mp h i _ c b w;rw[a,e]at this;lia
  .have:i=ms.idxOf n:=⋯
   subst this;rw[e]at a;lia
def Ag{ks:List Dm}{ms:L6}{i m:Nat}(h:ms[i]?=some m):(cX ks ms)[i]?=some (rN (λn=>ms.idxOf n) (ks.getD m (.hold 0))):=by
 unfold cX;rw[vv,h];rfl
def W2(ks:List Dm)(ms:L6):⇑(cX ks ms)=⇑ms:=vt _
def Du{ls:L4}{ps:N1}{ms:L6}(O:gk ls ps)(r:⇑ls<=8)(K:Kept ls ps ms):j0 ls (cX (cP ls ps) ms):=by
 refine⟨⟨λi d c j g=>?_,Lf O K⟩,λd c l h b e=>?_,by rw[W2];exact K.len O,r⟩
 .have f:=(vx.mp c).1;rw[W2]at f;have m:ms[i]?=some ms[i]:=vz f;rw[Ag m]at c;cases c;rw[uW]at g;let⟨n,o,rfl⟩:=vK.mp g;exact MY K.1 m (K.sub (getElem_mem f) o) (O.dw.get o).1
 .let⟨k,q,rfl⟩:=vK.mp c;have:=K.lt O q;have:=O.tp;have p:(cP ls ps).getD k (.hold 0)=(cP ls ps)[k]:=by rw[vy,vz ⋯];rfl
  rw[p]at e;have a:(cP ls ps)[k]∈cP ls ps:=getElem_mem _;generalize(cP ls ps)[k]=d' at e a;refine O.lm d' a l h b ?_;cases d'<;>first | exact e | cases e
def Aw(lx:L8)(d:Dm):(oI lx d).ns=d.ns.map iu:=by cases d<;>rfl
def Rc.inv{ks:List Dm}{t x:Nat}(h:Rc ks t x):x=t\/∃y,Rc ks t y/\x∈(ks.getD y (.hold 0)).ns:=by
 cases h with
 | top=>exact .inl rfl
 | sub h1 h2=>exact .inr ⟨_,h1,h2⟩
section
variable{ls:L4}{ps:N1}{ms:L6}
def Kept.refs(K:Kept ls ps ms)(O:gk ls ps){x:Nat}{d:Dm}(a:x∈ms)(b:(cP ls ps)[x]?=some d):∀j∈d.ns,j∈ms:=λj c=>K.sub a (by simp_all)
def Kept.named(K:Kept ls ps ms)(O:gk ls ps):(∃c,ms[c]?=some (ip ls ps)/\c+1=⇑ms)/\∀j,j+1<⇑ms->∃(i:Nat) (d:Dm),(cX (cP ls ps) ms)[i]?=some d/\j∈d.ns:=by
 have g:ip ls ps∈ms:=(K.2 _).mpr .top;have a:ms.idxOf (ip ls ps)+1=⇑ms:=by
  have f:=idxOf_lt_length_of_mem g;have h:=getElem_idxOf f;rcases Nat.lt_or_ge (ms.idxOf (ip ls ps)+1) ⇑ms with z | z
  .have:=pairwise_iff_getElem.mp K.1 (ms.idxOf (ip ls ps)) (ms.idxOf (ip ls ps)+1) f z ⋯;have:=K.lt O (getElem_mem z);rw[h]at *;lia
  .lia
 refine⟨⟨_,(AV g).1,a⟩,λj p=>?_⟩;have k:ms[j]?=some ms[j]:=vz ⋯;have l:ms[j]∈ms:=getElem_mem _;have b:ms.idxOf ms[j]=j:=(Bf K.1).idxOf_getElem j ⋯;rcases((K.2 _).mp l).inv with e | ⟨y,n,m⟩
 .rw[e]at b;lia
 .have o:=(K.2 y).mpr n;refine⟨_,_,Ag (AV o).1,?_⟩;rw[uW];exact vK.mpr ⟨_,m,b⟩
end
def Kp{lx px:L8}{st:List Dm×L6}{p:Str×Fm}:∃r,(dq lx px st p).1=st.1++r:=by
 unfold dq;dsimp only;split
 .simp_all
 .exact⟨_,rfl⟩
theorem Ek(lx px:L8)(ps:N1)(n:Nat):∀k,∃r,(cx lx px (ps.take (n+k))).1=(cx lx px (ps.take n)).1++r
 | 0=>⟨[],(append_nil _).symm⟩
 | k+1=>by
  let⟨r,h⟩:=Ek lx px ps n k;rcases Nat.lt_or_ge (n+k) ⇑ps with z | z
  .rw[show n+(k+1)=(n+k)+1 by lia,take_snoc (vz z),qN];let⟨b,a⟩:=Kp (lx:=lx) (px:=px) (st:=cx lx px (ps.take (n+k))) (p:=ps[n+k])
   simp_all
  .have e:ps.take (n+(k+1))=ps.take (n+k):=by rw[take_of_length_le ⋯,take_of_length_le z]
   rw[e];exact⟨r,h⟩
def MT{ls:L4}{ps:N1}{n x:Nat}{d:Dm}(h:(cx (cb ls) (cb ps) (ps.take n)).1[x]?=some d):(cP ls ps)[x]?=some d:=by
 let⟨r,e⟩:=Ek (cb ls) (cb ps) ps n ⇑ps;rw[take_of_length_le ⋯]at e;unfold cP;rw[e,vB (vx.mp h).1];exact h
def xA{lx px:L8}{st:List Dm×L6}{p:Str×Fm}:∃j,(dq lx px st p).2=st.2++[j]/\(dq lx px st p).1[j]?=some (mD lx px st.2 p.2)/\((j<⇑st.1/\(dq lx px st p).1=st.1)\/(j=⇑st.1/\(dq lx px st p).1.length=⇑st.1+1)):=by
 let⟨j,a,b,Z⟩:=Lz (lx:=lx) (px:=px) (st:=st) (p:=p);refine⟨j,a,b,?_⟩;unfold dq at a|-;dsimp only at a|-;split
 .rename_i hd;rw[vd hd]at a;have:st.1.idxOf (mD lx px st.2 p.2)=j:=by
   simp_all
  exact .inl ⟨this▸idxOf_lt_length_of_mem hd,rfl⟩
 simp_all
def iY(R:Str->Str->Prop)(p q:Fm):Prop:=match p with
 | .row ps=>∃qs,q = .row qs/\⇑ps=⇑qs/\∀(i:Nat) (x y:Str),ps[i]?=some x->qs[i]?=some y->R x y
 | .side ps=>∃qs,q = .side qs/\⇑ps=⇑qs/\∀(i:Nat) (x y:Str),ps[i]?=some x->qs[i]?=some y->R x y
 | .again k x=>∃y,q = .again k y/\R x y
 | p=>q=p
def iY.rise{R:Str->Str->Prop}{p:Fm}{x:Str}{a b:Int}(h:iY R p (.rise x a b)):p = .rise x a b:=by
 cases p with
 | row ps=>let⟨j,e,j⟩:=h;cases e
 | side ps=>let⟨j,e,j⟩:=h;cases e
 | again k y=>let⟨j,e,j⟩:=h;cases e
 | _=>exact h.symm
def LN{i j:Nat}(hi:i<676)(a:j<676)(h:iu i=iu j):i=j:=by
 unfold iu at h;split at h<;>split at h<;>(injection h with h;simp only[Array.mk.injEq,List.cons.injEq,reduceCtorEq,and_true,and_false,false_and]at h)<;>lia
def D8(ls:L4)(ks:List Dm):cb (eM ls ks)=(List.range ⇑ks).map iu:=by
 unfold cb eM;rw[uz];rfl
section
variable{ls:L4}{ks:List Dm}
def EB(B:j0 ls ks):(cb (eM ls ks)).Nodup:=by
 rw[D8];refine pairwise_map.mpr (List.Pairwise.imp_of_mem (λ{a b} d f c e=>c (LN ?_ ?_ e)) (List.nodup_range (n:=⇑ks)))
 .have:=v7.mp d;have:=B.rA;lia
 .have:=v7.mp f;have:=B.rA;lia
def EC{j:Nat}(h:j<⇑ks):(cb (eM ls ks))[j]?=some (iu j):=by
 rw[D8,vv,List.getElem?_range h];rfl
def MP(B:j0 ls ks){j:Nat}(h:j<⇑ks):cS (cb (eM ls ks)) (iu j)=j:=Je (EB B) (EC h)
def NG(B:j0 ls ks)(k:(cb ls).Nodup):eE ls (eM ls ks):=by
 refine⟨k,B.l8,EB B,by rw[yH];exact B.rA,λi p a=>?_,λi y x h n a=>?_⟩
 all_goals
  have d:=(vx.mp a).1;rw[yH]at d;have c:ks[i]?=some ks[i]:=vz d;rw[Ax c]at a
 .cases a;refine⟨λx f=>?_,?_⟩
  .rw[Aw]at f;let⟨j,g,rfl⟩:=vK.mp f;have:=B.dw.lt i _ c j g;exact⟨j,this,EC ⋯⟩
  .show(oI _ _).ns.length<=8;rw[Aw,vt];exact B.dw.l8 _ (getElem_mem _)
 .injection a with a;injection a with _ a;cases e:ks[i]with
  | rise l v b=>
   rw[e]at a;injection a with h1;have m:=B.lm _ (vm c) l v b e;exact⟨l,by rw[<-h1,vy,vz (by unfold cb;simp_all)];rfl⟩
  | _=>rw[e]at a;cases a
end
theorem DE(lx px:L8)(ps:N1)(n:Nat):∀k,∃r,(cx lx px (ps.take (n+k))).2=(cx lx px (ps.take n)).2++r
 | 0=>⟨[],(append_nil _).symm⟩
 | k+1=>by
  let⟨r,h⟩:=DE lx px ps n k;rcases Nat.lt_or_ge (n+k) ⇑ps with z | z
  .rw[show n+(k+1)=(n+k)+1 by lia,take_snoc (vz z),qN];let⟨j,a,Z⟩:=xA (lx:=lx) (px:=px) (st:=cx lx px (ps.take (n+k))) (p:=ps[n+k])
   simp_all
  .have e:ps.take (n+(k+1))=ps.take (n+k):=by rw[take_of_length_le ⋯,take_of_length_le z]
   rw[e];exact⟨r,h⟩
noncomputable def numOf(ls:L4)(ps:N1)(i:Nat):Nat:=(cx (cb ls) (cb ps) ps).2.getD i 0
section
variable{ls:L4}{ps:N1}{ms:L6}
def A0{n i:Nat}(a:n<=⇑ps)(h:i<n):(cx (cb ls) (cb ps) (ps.take n)).2.getD i 0=numOf ls ps i:=by
 let⟨r,e⟩:=DE (cb ls) (cb ps) ps n ⇑ps;have M:=wT (cb ls) (cb ps) n (ps.take n) (by rw[vi];lia);rw[take_of_length_le ⋯]at e;unfold numOf;rw[e,vy,vy,vB (by rw[M.ln];exact h)]
def Hf(W:eE ls ps){i:Nat}{p:Str×Fm}(b:ps[i]?=some p):(cP ls ps)[numOf ls ps i]?=some (mD (cb ls) (cb ps) (cx (cb ls) (cb ps) ps).2 p.2):=by
 have o:=(vx.mp b).1;have M1:=wT (cb ls) (cb ps) i (ps.take i) (by rw[vi];lia);have h:cx (cb ls) (cb ps) (ps.take (i+1))=dq (cb ls) (cb ps) (cx (cb ls) (cb ps) (ps.take i)) p:=by rw[take_snoc b,qN]
 let⟨j,c,e,Z⟩:=xA (lx:=cb ls) (px:=cb ps) (st:=cx (cb ls) (cb ps) (ps.take i)) (p:=p);rw[<-h]at c e;have g:numOf ls ps i=j:=by
  rw[<-A0 (n:=i+1) ⋯ ⋯,c];have:=getD_last (l:=(cx (cb ls) (cb ps) (ps.take i)).2) (x:=j) (d:=0);rw[M1.ln]at this;exact this
 rw[g];have:=MT e;rw[this];have a:∀x∈p.2.ns,(cx (cb ls) (cb ps) (ps.take i)).2.getD (cS (cb ps) x) 0=(cx (cb ls) (cb ps) ps).2.getD (cS (cb ps) x) 0:=λx m=>A0 ⋯ (W.cI b (vK.mpr ⟨x,m,rfl⟩))
 generalize p.2=f at a;cases f with
 | row qs=>exact congrArg (λz=>some (Dm.row z)) (map_congr_left a)
 | side qs=>exact congrArg (λz=>some (Dm.side z)) (map_congr_left a)
 | again k x=>exact congrArg (λz=>some (Dm.again k z)) (a x vq)
 | _=>rfl
structure sr(ps qs:N1)(C:Nat->Nat->Prop)(g:Nat->Nat):Prop where
 lt:∀i k,C i k->i<⇑ps/\k<⇑qs
 ex:∀k,k<⇑qs->∃i,C i k
 top:C (⇑ps-1) (⇑qs-1)
 f:∀(i k:Nat) (p q:Str×Fm),C i k->ps[i]?=some p->qs[k]?=some q->iY (λ_ _=>True) p.2 q.2/\cK qs q.2=(cK ps p.2).map g/\∀j∈cK ps p.2,j<i/\C j (g j)
theorem Ea(n:Nat):∀(i:Nat),i<=n->∀(x:Nat),x<(cx (cb ls) (cb ps) (ps.take i)).1.length->i<=⇑ps->∃j,j<i/\numOf ls ps j=x
 | 0,_,x,h,_=>by simp[cx]at h
 | i+1,hn,x,h,hi=>by
  have g:ps[i]?=some ps[i]:=vz hi;have M1:=wT (cb ls) (cb ps) i (ps.take i) (by rw[vi];lia);let⟨j,b,k,c⟩:=xA (lx:=cb ls) (px:=cb ps) (st:=cx (cb ls) (cb ps) (ps.take i)) (p:=ps[i]);have e:cx (cb ls) (cb ps) (ps.take (i+1))=dq (cb ls) (cb ps) (cx (cb ls) (cb ps) (ps.take i)) ps[i]:=by rw[take_snoc g,qN]
  rw[<-e]at b c;have a:x<(cx (cb ls) (cb ps) (ps.take i)).1.length->∃j,j<i+1/\numOf ls ps j=x:=λh=>by
   let⟨j,m,f⟩:=Ea n i ⋯ x h ⋯;exact⟨j,⋯,f⟩
  rcases c with⟨_,z⟩ | ⟨o,q⟩
  .exact a (by rw[z]at h;exact h)
  .rcases Nat.lt_or_ge x (cx (cb ls) (cb ps) (ps.take i)).1.length with y | y
   .exact a y
   .refine⟨i,⋯,?_⟩;rw[<-A0 (n:=i+1) ⋯ ⋯,b];have:=getD_last (l:=(cx (cb ls) (cb ps) (ps.take i)).2) (x:=j) (d:=0);rw[M1.ln]at this;lia
def MQ(W:eE ls ps)(D:1<=⇑ps)(K:Kept ls ps ms):sr ps (eM ls (cX (cP ls ps) ms)) (λi k=>i<⇑ps/\ms[k]?=some (numOf ls ps i)) (λj=>ms.idxOf (numOf ls ps j)):=by
 have O:=Ai W D;have B:=Du O W.l8 K;have w:⇑(cX (cP ls ps) ms)=⇑ms:=by unfold cX;rw[vt]
 have r:⇑(eM ls (cX (cP ls ps) ms))=⇑ms:=by rw[yH,w]
 refine⟨λi k h=>⟨h.1,by rw[r];exact(vx.mp h.2).1⟩,λk o=>?_,?_,λi k p q h l A=>?_⟩
 .rw[r]at o;have g:ms[k]<⇑(cP ls ps):=vD (K.lt O (getElem_mem o)) O.tp;let⟨j,m,u⟩:=Ea (ls:=ls) (ps:=ps) ⇑ps ⇑ps (vb _) ms[k] (by rw[v8];exact g) (vb _);exact⟨j,m,by rw[u];exact vz o⟩
 .let⟨⟨c,m,u⟩,_⟩:=K.named O;refine⟨⋯,?_⟩;rw[r,show ⇑ms-1=c by lia];exact m
 .let⟨F,g⟩:=h;have v:=Hf W l;have s:=Ag (ks:=cP ls ps) g;rw[vy,v]at s;have t:=Ax (ls:=ls) s;rw[A]at t;cases t;have d:∀j∈cK ps p.2,numOf ls ps j∈ms:=λj a=>by
   refine K.refs O (vm g) v _ ?_;let⟨x,b,rfl⟩:=vK.mp a;generalize p.2=f at b;cases f with
   | row qs=>exact vK.mpr ⟨x,b,rfl⟩
   | side qs=>exact vK.mpr ⟨x,b,rfl⟩
   | again k y=>rw[vo.mp b];exact vq
   | _=>exact nomatch b
  have C:∀j∈cK ps p.2,cS (cb (eM ls (cX (cP ls ps) ms))) (iu (ms.idxOf (numOf ls ps j)))=ms.idxOf (numOf ls ps j):=λj a=>MP B (by rw[w];exact idxOf_lt_length_of_mem (d j a))
  refine⟨?_,?_,λj a=>⟨W.cI l a,by have:=W.cI l a;lia,(AV (d j a)).1⟩⟩
  .have z:=λx h n (e:p.2 = .rise x h n)=>W.r i p.1 x h n (by rw[l,<-e])
   show iY _ p.2 (oI (cb ls) (rN _ (mD _ _ _ p.2)));generalize p.2=f at z;cases f with
   | hold n=>rfl
   | ring x n=>rfl
   | rise x h n=>
    let⟨j,a⟩:=z x h n rfl;show Fm.rise ((cb ls).getD (cS (cb ls) x) ⟨#[]⟩) h n = .rise x h n;rw[Je W.ln a,vy,a];rfl
   | row qs=>exact⟨_,rfl,by rw[vt,vt,vt],λZ Z Z Z Z=>trivial⟩
   | side qs=>exact⟨_,rfl,by rw[vt,vt,vt],λZ Z Z Z Z=>trivial⟩
   | again k x=>exact⟨_,rfl,trivial⟩
  .unfold cK at C|-;show(oI (cb ls) (rN _ (mD _ _ _ p.2))).ns.map _=_;rw[Aw,uW,uz,uz];have E:(mD (cb ls) (cb ps) (cx (cb ls) (cb ps) ps).2 p.2).ns=p.2.ns.map λx=>numOf ls ps (cS (cb ps) x):=by cases p.2<;>rfl
   rw[E,uz]
   simp_all
def iY.iH{R:Str->Str->Prop}{p q:Fm}{x:Str}{a b:Int}(h:iY R p q):p = .rise x a b↔q = .rise x a b:=by
 constructor
 .rintro rfl;exact h
 .rintro rfl;exact h.rise
section
variable{qs:N1}{C:Nat->Nat->Prop}{g:Nat->Nat}
def ID{M N:L1}(R:sr ps qs C g)(H:⇑M=⇑ps)(I:⇑N=⇑qs)(B:dV ls ps M)(D:dV ls qs N):∀i k,C i k->N.getD k []=M.getD i []:=by
 intro i
 induction i using Nat.strongRecOn with
 | ind i ih=>
  intro k s;let⟨E,F⟩:=R.lt i k s;have q:ps[i]?=some ps[i]:=vz E;have r:qs[k]?=some qs[k]:=vz F;have z:M[i]?=some (M.getD i []):=by simp_all
  have A:N[k]?=some (N.getD k []):=by simp_all
  let⟨a,b⟩:=B i _ _ q z;let⟨w,y⟩:=D k _ _ r A;let⟨u,d,t⟩:=R.f i k _ _ s q r;refine uO w a λv=>(y v).trans (Iff.trans ?_ (b v).symm)
  rw[d];refine or_congr ⟨?_,?_⟩ ⟨?_,?_⟩
  .rintro⟨G,l,m⟩;let⟨j,c,rfl⟩:=vK.mp l;let⟨o,p⟩:=t j c;exact⟨j,c,by rw[<-ih j o _ p];exact m⟩
  .rintro⟨j,c,m⟩;let⟨o,p⟩:=t j c;exact⟨g j,vK.mpr ⟨j,c,rfl⟩,by rw[ih j o _ p];exact m⟩
  .rintro⟨x,h,n,e,f⟩;exact⟨x,h,n,u.iH.mpr e,f⟩
  .rintro⟨x,h,n,e,f⟩;exact⟨x,h,n,u.iH.mp e,f⟩
def sG(Ls:L0)(k v:Int):Prop:=∃pre e post,Ls=pre++e::post/\(k,v)∈e/\∀e'∈post,∀v',(k,v')∉e'
theorem Dz{c b:Type}{f:c->b}:∀{l:List c} {pre:List b} {e:b} {a:List b},l.map f=pre++e::a->∃p x q,l=p++x::q/\p.map f=pre/\f x=e/\q.map f=a
 | [],pre,e,a,h=>by cases pre<;>simp at h
 | y::l,[],e,a,h=>by
  rw[uw,nil_append]at h;injection h with h1 h2;exact⟨[],y,l,rfl,rfl,h1,h2⟩
 | y::l,z::pre,e,a,h=>by
  rw[uw,List.cons_append]at h;injection h with h1 h2;let⟨p,x,q,rfl,d,g,i⟩:=Dz h2;exact⟨y::p,x,q,rfl,by rw[uw,h1,d],g,i⟩
def Cj{E:L0}{is:L6}{k v:Int}:fD E is k v↔sG (is.map λj=>E.getD j []) k v:=by
 constructor
 .rintro⟨c,j,a,rfl,d,f⟩;refine⟨c.map λj=>E.getD j [],E.getD j [],a.map λj=>E.getD j [],by rw[vj];rfl,d,λl i=>?_⟩;let⟨g,b,rfl⟩:=vK.mp i;exact f g b
 .rintro⟨c,e,a,h,d,f⟩;let⟨p,x,q,rfl,rfl,rfl,rfl⟩:=Dz h;exact⟨p,x,q,rfl,d,λg b=>f _ (vK.mpr ⟨g,b,rfl⟩)⟩
theorem Ei:∀{l:L5},l≠[]->∃g∈l,∀x∈l,x<=g
 | [],h=>ub rfl h
 | [a],_=>⟨a,vq,λx c=>by simp_all⟩
 | a::b::r,_=>by
  let⟨g,e,d⟩:=Ei (l:=b::r) (λz=>by cases z);rcases Int.le_total a g with z | z
  .exact⟨g,vp _ e,λx c=>by
    rcases mem_cons.mp c with rfl | c
    .exact z
    .exact d x c⟩
  .exact⟨a,vq,λx c=>by
    rcases mem_cons.mp c with rfl | c
    .exact vA _
    .exact Int.le_trans (d x c) z⟩
def Ee{f:Fm}{a:L5}(h:iC f a):∃g,iB f a g:=by
 cases f with
 | side qs=>exact(Ei h).imp λg h=>h
 | again k x=>let⟨y,r,rfl,j⟩:=h;exact⟨k*y,y,rfl,rfl⟩
 | row qs=>exact⟨_,rfl⟩
 | _=>exact⟨_,rfl⟩
def Kq{R:Str->Str->Prop}{p q:Fm}(h:iY R p q){a:L5}:(iC p a↔iC q a)/\∀g,iB p a g↔iB q a g:=by
 cases p with
 | row ps=>let⟨j,rfl,j⟩:=h;exact⟨Iff.rfl,λg=>Iff.rfl⟩
 | side ps=>let⟨j,rfl,j⟩:=h;exact⟨Iff.rfl,λg=>Iff.rfl⟩
 | again k x=>let⟨j,rfl,j⟩:=h;exact⟨Iff.rfl,λg=>Iff.rfl⟩
 | _=>rw[show q=_ from h];exact⟨Iff.rfl,λg=>Iff.rfl⟩
def iY.tQ{R:Str->Str->Prop}{p q:Fm}{ys:L8}(h:iY R p q)(e:q = .side ys):∃xs,p = .side xs:=by
 subst e;cases p with
 | side ps=>exact⟨_,rfl⟩
 | row ps=>let⟨j,e,j⟩:=h;cases e
 | again k x=>let⟨j,e,j⟩:=h;cases e
 | _=>cases h
def IE{gs:L5}{w:L1}(S:oy ls ps gs w)(hl:⇑w=⇑ps)(W:dV ls ps w)(R:sr ps qs C g)(n1:1<=⇑qs)(X:eE ls qs):∃gs' hs',oy ls qs gs' hs'/\gs'∘(⇑qs-1)=gs∘(⇑ps-1)/\⇑hs'=⇑qs/\dV ls qs hs':=by
 have⟨d,hrep⟩:∃d:Nat->Nat,∀k,k<⇑qs->C (d k) k:=by
  have h:∀k,∃i,k<⇑qs->C i k:=λk=>by
   rcases Nat.lt_or_ge k ⇑qs with z | z
   .exact(R.ex k z).imp λi h _=>h
   .exact⟨0,λh=>⋯⟩
  exact⟨λk=>(h k).choose,λk s=>(h k).choose_spec s⟩
 have y:∀{α:Type} (v:Nat->α) (k i:Nat) (p q:Str×Fm),C i k->ps[i]?=some p->qs[k]?=some q->(∀f,f<k->∀j,C j f->v j=v (d f))->(cK ps p.2).map v=(cK qs q.2).map λf=>v (d f):=λv k i p q r hp u M=>by
  let⟨_,G,l⟩:=R.f i k p q r hp u;rw[G,uz];refine map_congr_left λj A=>M (g j) ?_ j (l j A).2
  exact X.cI u (by rw[G];exact vK.mpr ⟨j,A,rfl⟩)
 have hG:∀k,k<⇑qs->∀i,C i k->gs∘i=gs∘(d k):=by
  intro k
  induction k using Nat.strongRecOn with
  | ind k M=>
   intro s i r;have I:qs[k]?=some qs[k]:=vz s;have D:∀i,C i k->∀g,iB qs[k].2 ((cK qs qs[k].2).map λf=>gs∘(d f)) g->g=gs∘i:=λi r g L=>by
    obtain⟨p,t⟩:∃p,ps[i]?=some p:=⟨_,vz (R.lt i k r).1⟩
    have B:=y (λj=>gs∘j) k i _ _ r t I λf o j l=>M f o ⋯ j l
    refine(S.ln i _ t).2 g ?_;rw[B];exact((Kq (R.f i k _ _ r t I).1).2 g).mpr L
   obtain⟨p,t⟩:∃p,ps[i]?=some p:=⟨_,vz (R.lt i k r).1⟩
   have B:=y (λj=>gs∘j) k i _ _ r t I λf o j l=>M f o ⋯ j l
   have Q:=(S.ln i _ t).1;rw[B]at Q;let⟨g,L⟩:=Ee ((Kq (R.f i k _ _ r t I).1).1.mp Q);rw[<-D i r g L,<-D (d k) (hrep k s) g L]
 have Z:∀k,k<⇑qs->∀i,C i k->w.getD i []=w.getD (d k) []:=by
  intro k
  induction k using Nat.strongRecOn with
  | ind k M=>
   intro s i r;have I:qs[k]?=some qs[k]:=vz s;have D:∀i,C i k->(w.getD i []).Pairwise (· < ·)/\∀v,v∈w.getD i []↔(∃c∈(cK qs qs[k].2).map (λf=>w.getD (d f) []),v∈c)\/∃x h n,qs[k].2 = .rise x h n/\v=(cS (cb ls) x:Nat):=λi r=>by
    have hi:=(R.lt i k r).1;obtain⟨p,t⟩:∃p,ps[i]?=some p:=⟨_,vz hi⟩
    have B:=y (λj=>w.getD j []) k i _ _ r t I λf o j l=>M f o ⋯ j l
    have F:=(R.f i k _ _ r t I).1;let⟨a,b⟩:=W i _ (w.getD i []) t (by rw[vy,vz ⋯];rfl);refine⟨a,λv=>(b v).trans (or_congr ?_ ?_)⟩
    .rw[<-B];constructor
     .rintro⟨j,l,H⟩;exact⟨_,vK.mpr ⟨j,l,rfl⟩,H⟩
     .rintro⟨c,a0,H⟩;let⟨j,l,rfl⟩:=vK.mp a0;exact⟨j,l,H⟩
    .constructor
     .rintro⟨x,h,n,e,J⟩;exact⟨x,h,n,F.iH.mp e,J⟩
     .rintro⟨x,h,n,e,J⟩;exact⟨x,h,n,F.iH.mpr e,J⟩
   have h1:=D i r;have h2:=D (d k) (hrep k s);exact uO h1.1 h2.1 λv=>(h1.2 v).trans (h2.2 v).symm
 have T:∀k,k<⇑qs->((List.range ⇑qs).map λk=>gs∘(d k)).getD k 0=gs∘(d k):=λk s=>by
  rw[vy,vv,List.getElem?_range s];rfl
 have O:∀k,k<⇑qs->((List.range ⇑qs).map λk=>w.getD (d k) []).getD k []=w.getD (d k) []:=λk s=>by
  rw[vy,vv,List.getElem?_range s];rfl
 have E:∀{k:Nat} {q:Str×Fm},qs[k]?=some q->∀j∈cK qs q.2,j<⇑qs:=λu j l=>by
  have:=X.cI u l;have:=(vx.mp u).1;lia
 refine⟨(List.range ⇑qs).map λk=>gs∘(d k),(List.range ⇑qs).map λk=>w.getD (d k) [],⟨X,by rw[vt,length_range],λk s=>?_,λN nl hN k s=>?_,λk q u=>?_,λk q xs u e=>?_⟩,?_⟩
 .rw[T k s];exact S.gb _ (R.lt _ k (hrep k s)).1
 .rw[O k s];exact ID R hl nl W hN _ k (hrep k s)
 .have s:=(vx.mp u).1;have r:=hrep k s;obtain⟨p,t⟩:∃p,ps[d k]?=some p:=⟨_,vz (R.lt _ k r).1⟩
  have B:=y (λj=>gs∘j) k _ _ _ r t u λf o j l=>hG f ⋯ j l
  have Y:(cK qs q.2).map (λj=>((List.range ⇑qs).map λk=>gs∘(d k)).getD j 0)=(cK ps p.2).map λj=>gs∘j:=by
   rw[B];exact map_congr_left λj l=>T j (E u j l)
  have F:=(R.f _ k _ _ r t u).1;rw[Y,T k s];exact⟨(Kq F).1.mp (S.ln _ _ t).1,λg L=>(S.ln _ _ t).2 g (((Kq F).2 g).mpr L)⟩
 .have s:=(vx.mp u).1;have r:=hrep k s;obtain⟨p,t⟩:∃p,ps[d k]?=some p:=⟨_,vz (R.lt _ k r).1⟩
  have B:=y (λj=>w.getD j []) k _ _ _ r t u λf o j l=>Z f ⋯ j l
  let⟨F,G,l⟩:=R.f _ k _ _ r t u;let⟨ys,ey⟩:=F.tQ e;let⟨s1,s2⟩:=S.sd _ _ ys t ey;have Y:(cK qs q.2).map (λj=>((List.range ⇑qs).map λk=>w.getD (d k) []).getD j [])=(cK ps p.2).map λj=>w.getD j []:=by
   rw[B];exact map_congr_left λj l=>O j (E u j l)
  refine⟨λj A=>?_,by rw[Y];exact s2⟩;rw[O j (E u j A)];rw[G]at A;let⟨U,K,rfl⟩:=vK.mp A;rw[<-Z _ (R.lt _ _ (l U K).2).2 U (l U K).2];exact s1 U K
 .refine⟨by rw[T _ ⋯];exact(hG _ ⋯ _ R.top).symm,by rw[vt,length_range],λk q ks u P=>?_⟩;have s:=(vx.mp u).1;have r:=hrep k s;have hi:=(R.lt _ k r).1;obtain⟨p,t⟩:∃p,ps[d k]?=some p:=⟨_,vz hi⟩
  rw[vv,List.getElem?_range s]at P;cases P;have B:=y (λj=>w.getD j []) k _ _ _ r t u λf o j l=>Z f ⋯ j l
  have F:=(R.f _ k _ _ r t u).1;let⟨a,b⟩:=W _ _ (w.getD (d k) []) t (by rw[vy,vz ⋯];rfl);refine⟨a,λv=>(b v).trans (or_congr ?_ ?_)⟩
  .constructor
   .rintro⟨j,l,H⟩;have m:w.getD j []∈(cK qs q.2).map λf=>w.getD (d f) []:=by rw[<-B];exact vK.mpr ⟨j,l,rfl⟩
    let⟨f,o,e⟩:=vK.mp m;exact⟨f,o,by rw[O f (E u f o),e];exact H⟩
   .rintro⟨f,o,H⟩;rw[O f (E u f o)]at H;have m:w.getD (d f) []∈(cK ps p.2).map λj=>w.getD j []:=by rw[B];exact vK.mpr ⟨f,o,rfl⟩
    let⟨j,l,e⟩:=vK.mp m;exact⟨j,l,by rw[e];exact H⟩
  .constructor
   .rintro⟨x,h,n,e,J⟩;exact⟨x,h,n,F.iH.mp e,J⟩
   .rintro⟨x,h,n,e,J⟩;exact⟨x,h,n,F.iH.mpr e,J⟩
end
end
structure Sa where
 d:Addr
 f:Addr
 o:Addr
 s:Addr
 l:Addr
 p:Addr
 fb:L7
 la:L7
 pa:L7
noncomputable def iZ(z:Sa):List (Str×V):=cF "pieces" (.ref z.p) (cF "left" (.ref z.l) (cF "sizes" (.ref z.s) (cF "forms" (.ref z.o) (cF "first" (.ref z.f) (cF "limbs" (.ref z.d) [])))))
section
variable{z:Sa}
def Jq(h:¬a=b):(cF b v r).lookup a=r.lookup a:=by rw[ZQ,vc h]
def Zq:(cF a v r).lookup a=some v:=by rw[ZQ,vd rfl]
def WV:(iZ z).lookup ("pieces" : Str)=↥z.p:=Zq
def Ht:(iZ z).lookup ("left" : Str)=↥z.l:=(Jq ∅).trans Zq
def Zc:(iZ z).lookup ("sizes" : Str)=↥z.s:=(Jq ∅).trans ((Jq ∅).trans Zq)
def Y4:(iZ z).lookup ("forms" : Str)=↥z.o:=(Jq ∅).trans ((Jq ∅).trans ((Jq ∅).trans Zq))
def GC:(iZ z).lookup ("first" : Str)=↥z.f:=(Jq ∅).trans ((Jq ∅).trans ((Jq ∅).trans ((Jq ∅).trans Zq)))
def Xr:(iZ z).lookup ("limbs" : Str)=↥z.d:=(Jq ∅).trans ((Jq ∅).trans ((Jq ∅).trans ((Jq ∅).trans ((Jq ∅).trans Zq))))
def WU{m:Str}(a:¬m = "pieces")(b:¬m = "left")(c:¬m = "sizes")(d:¬m = "forms")(e:¬m = "first")(f:¬m = "limbs"):(iZ z).lookup m=none:=(Jq a).trans ((Jq b).trans ((Jq c).trans ((Jq d).trans ((Jq e).trans (Jq f)))))
theorem Jy(f:Str)(v:V):∀r:List (Str×V),⇑(cF f v r)<=⇑r+1
 | []=>vb _
 | (g,u)::r=>by
  unfold cF;split
  .exact Nat.le_succ _
  .rw[vQ,vQ];have:=Jy f v r;lia
end
def dt.less{H:Hp}(q:H a=some (.ins C dx fs))(B:dt H b pl pp las pas ls ps) :
  ∃g:Hp,(∀H',(∀c u,c≠a->H c=some u->H' c=some u)->cj g H')/\(∀{c u},g c=some u->c≠a)/\dt g b pl pp las pas ls ps:=by
 have e:∀{c:Addr} {f:N2},H c=some (.tup f)->(λc=>if c=a then none else H c) c=some (.tup f):=λ{c f} h=>by
  lia
 have m:∀{c:Addr} {f:N2},H c=some (.lst f)->(λc=>if c=a then none else H c) c=some (.lst f):=λ{c f} h=>by
  lia
 refine⟨λc=>if c=a then none else H c,λH' k c u h=>?_,λ{c u} h=>?_,e B.t,m B.l,B.la.mono λa x l=>e l,m B.p,B.pa.mono λa x l=>?_⟩
 .simp_all
 .lia
 .let⟨o,p,d⟩:=l;refine⟨o,e p,?_⟩;cases hx2:x.2 with
  | row r=>rw[hx2]at d;let⟨c,i,j⟩:=d;exact⟨c,e i,e j⟩
  | side r=>rw[hx2]at d;let⟨c,i,j⟩:=d;exact⟨c,e i,e j⟩
  | hold n=>rw[hx2]at d;exact e d
  | ring y n=>rw[hx2]at d;exact e d
  | rise y v n=>rw[hx2]at d;exact e d
  | again k y=>rw[hx2]at d;exact e d
def zy(h:⇑(cF f v r)<=n)(k:n<1000):⇑(cF f v r)<1000:=vD h k
section
variable{a b c d e:Str}{u v w x y:V}
def Aa:⇑(cF c w (cF b v (cF a u [])))<1000:=by
 have:=Jy c w (cF b v (cF a u []));have:=Jy b v (cF a u []);have:=Jy a u [];simp at *;lia
def Ab:⇑(cF d x (cF c w (cF b v (cF a u []))))<1000:=by
 have:=Jy d x (cF c w (cF b v (cF a u [])));have:=Jy c w (cF b v (cF a u []));have:=Jy b v (cF a u []);have:=Jy a u [];simp at *;lia
def Ac:⇑(cF e y (cF d x (cF c w (cF b v (cF a u [])))))<1000:=by
 have:=Jy e y (cF d x (cF c w (cF b v (cF a u []))));have:=Jy d x (cF c w (cF b v (cF a u [])));have:=Jy c w (cF b v (cF a u []));have:=Jy b v (cF a u []);have:=Jy a u [];simp at *;lia
end
noncomputable def gi(es:Np)(h:L5):L5:=es.foldl (λh q=>h.set q.1.toNat q.2) h
def wI(q:Int×Int)(r:Np)(h:L5):gi (q::r) h=gi r (h.set q.1.toNat q.2):=rfl
section
variable{L:L8}{fs:List Fn}{M:L1}{gs:L5}{names:L8}{ls:L4}{n:Nat}{E:L0}
theorem wm{b a:Type}{f g:a->b->a}:∀{l:List b} {h:a},(∀x∈l,∀h,f h x=g h x)->l.foldl f h=l.foldl g h
 | [],_,_=>rfl
 | x::r,h,e=>by rw[foldl_cons,foldl_cons,e x vq,wm λy c=>e y (vp _ c)]
end
section
variable{α β:Type}
theorem Cc{f:β->α->β}{x:α}:∀{ys:List α} {h:β},(∀y∈ys,∀h,f (f h x) y=f (f h y) x)->f (ys.foldl f h) x=ys.foldl f (f h x)
 | [],_,_=>rfl
 | y::r,h,k=>by
  rw[foldl_cons,foldl_cons,k y vq h];exact Cc λz a=>k z (vp _ a)
theorem wj{f:β->α->β}{p:α->Bool}:∀{R:List α} {h:β},R.Pairwise (λx y=>p x=false->p y=true->∀h,f (f h x) y=f (f h y) x)->
  (R.filter λx=>!p x).foldl f ((R.filter p).foldl f h)=R.foldl f h
 | [],_,_=>rfl
 | x::r,h,k=>by
  rw[vV]at k;cases e:p x with
  | true=>
   have a:(x::r).filter (λx=>!p x)=r.filter λx=>!p x:=by simp_all
   rw[a,filter_cons_of_pos e,foldl_cons,foldl_cons];exact wj k.2
  | false=>
   have a:(x::r).filter (λx=>!p x)=x::r.filter λx=>!p x:=by simp_all
   have b:(x::r).filter p=r.filter p:=by simp_all
   have c:f ((r.filter p).foldl f h) x=(r.filter p).foldl f (f h x):=Cc λy d h=>k.1 y (vP.mp d).1 e (vP.mp d).2 h
   rw[a,b,foldl_cons,foldl_cons,c];exact wj k.2
theorem wk{f:β->α->β}{p:α->Bool}:∀{R:List α} {h:β},(∀x∈R,p x=false->∀h,f h x=h)->(R.filter p).foldl f h=R.foldl f h
 | [],_,_=>rfl
 | x::r,h,k=>by
  cases e:p x with
  | true=>
   rw[filter_cons_of_pos e,foldl_cons,foldl_cons];exact wk λy a=>k y (vp _ a)
  | false=>
   rw[filter_cons_of_neg (by simp[e]),foldl_cons,k x vq e];exact wk λy a=>k y (vp _ a)
theorem Y3{f:α->List β}{p:α->Bool}:∀{R:List α},(∀x∈R,p x=false->f x=[])->(R.filter p).flatMap f=R.flatMap f
 | [],_=>rfl
 | x::r,k=>by
  cases e:p x with
  | true=>
   rw[filter_cons_of_pos e,flatMap_cons,flatMap_cons,Y3 λy a=>k y (vp _ a)]
  | false=>
   rw[filter_cons_of_neg (by simp[e]),flatMap_cons,k x vq e,Y3 λy a=>k y (vp _ a)];rfl
end
section
variable{ls:L4}{ps:N1}{gs:L5}{hs:L1}{E:L0}{t:Int}
noncomputable def i9(gs:L5)(x:Nat×Int):Bool:=decide (gs∘x.1<=x.2)
noncomputable def eO(ps:N1)(gs:L5)(x:Nat×Int):Bool:=(cT ps gs x.1).isEmpty
def Dj(gs:L5)(hs:L1)(a b:Nat×Int):Prop:=i9 gs a=false->∀k∈hs.getD a.1 [],k∉hs.getD b.1 []
def Dj.ov{a b:Nat×Int}(h:gs∘a.1<=a.2):Dj gs hs a b:=λz=>by
 unfold i9 at z;rw[vG h]at z;cases z
def Me{l r:L3}(h:∀a∈l,gs∘a.1<=a.2)(k:⇑r<=1):(l++r).Pairwise (Dj gs hs):=by
 induction l with
 | nil=>
  match r,k with
  | [],_=>exact .nil
  | [a],_=>exact pairwise_singleton _ _
 | cons a l ih=>exact vV.mpr ⟨λb j=>.ov (h a vq),ih λb c=>h b (vp _ c)⟩
theorem Es:∀{is:L6} {b:Int},(∀k∈is,1<=gs∘k/\gs∘k<=10^60)->(fV gs t (dn gs is b)).Pairwise (Dj gs hs)
 | [],b,_=>.nil
 | j::r,b,hg=>by
  by_cases h:b<=t
  .rw[CL hg h];split
   .exact vV.mpr ⟨λb Z=>.ov (vA _),Es λk a=>hg k (vp _ a)⟩
   .exact pairwise_singleton _ _
  .rw[xv (λk a=>by have:=hg k a;lia) ⋯];exact .nil
theorem BR:∀{is:L6},(∀k:Int,⇑((is.map λj=>hs.getD j []).filter λks=>decide (k∈ks))<=1)->is.Pairwise λj b=>∀k∈hs.getD j [],k∉hs.getD b []
 | [],_=>.nil
 | j::r,h=>by
  refine vV.mpr ⟨λb c a e d=>?_,BR λk=>?_⟩
  .have:=h a
   simp_all
  .have:=h k;rw[uw,ux]at this;split at this
   .rw[vQ]at this;lia
   .exact this
def MN(N:Sn ls ps gs hs){i:Nat}(hi:i<⇑ps)(s:0<=t):(fV gs t (cT ps gs i)).Pairwise (Dj gs hs):=by
 obtain⟨p,o⟩:∃p,ps[i]?=some p:=⟨_,vz hi⟩
 have l:cT ps gs i=fh gs p.2 (cK ps p.2):=by unfold cT;rw[o]
 have d:∀k∈cK ps p.2,1<=gs∘k/\gs∘k<=10^60:=λk m=>by
  have:=N.s.w.cI o m;exact N.g ⋯
 rw[l];cases e:p.2 with
 | again k x=>
  rw[e]at d;rw[show cK ps (.again k x)=[cS (cb ps) x]from rfl]at d|-;have g:=(d _ vq).1;generalize cS (cb ps) x=j at g|-;show(fV gs t ((j,1,0)::(if 1<k then[(j,k-1,gs∘j)]else[]))).Pairwise _;rw[ZE,uP g s,Int.sub_zero];by_cases c:gs∘j<=t
  .rw[vd c];split
   .rw[ZE,Ds,append_nil,Dr (show gs∘j<=t from c),<-List.append_assoc];refine Me (λa u=>?_) (by split<;>simp);have:a=(j,gs∘j):=by
     rcases vh.mp u with z | z
     .exact vo.mp z
     .split at z
      .exact vo.mp z
      .exact nomatch z
    rw[this];exact vA _
   .exact pairwise_singleton _ _
  .rw[vc c];have z:fV gs t (if 1<k then[(j,k-1,gs∘j)]else[])=[]:=by
    split
    .exact KG λq w=>by rw[vo.mp w];show t<gs∘j;lia
    .rfl
   rw[z];exact pairwise_singleton _ _
 | row xs=>rw[e]at d;exact Es d
 | side xs=>
  let⟨Z,f⟩:=N.s.sd i p xs o e;rw[e]at d f;show(fV gs t ((cK ps (.side xs)).map λj=>(j,1,0))).Pairwise _;rw[Cp (λk m=>(d k m).1) s];refine pairwise_map.mpr ((BR f).imp λ{a b} h=>?_);have r:∀j:Nat,(if gs∘j<=t then(j,gs∘j)else(j,t)).1=j:=λj=>by split<;>rfl
  intro Z;rw[r,r];exact h
 | hold n=>exact .nil
 | ring x n=>exact .nil
 | rise x v n=>exact .nil
def MM{i:Nat}{p:Str×Fm}(b:ps[i]?=some p){x:Nat×Int}(h:x∈fV gs t (cT ps gs i)):x.1∈cK ps p.2:=by
 let⟨q,a,e⟩:=DA h;unfold cT at a;rw[b]at a;rw[e];exact Cw a
def CK(N:Sn ls ps gs hs):∀{i:Nat} {t:Int} {x:Nat×Int},i<⇑ps->x∈reach ps gs i t->∀k∈hs.getD x.1 [],k∈hs.getD i []:=by
 intro i
 induction i using Nat.strongRecOn with
 | ind i ih=>
  intro t x c a k b;by_cases h:gs∘i<=t\/cT ps gs i=[]
  .rw[zn h]at a;rw[vo.mp a]at b;exact b
  .rw[yR N.s.w h]at a;let⟨y,e,a⟩:=mem_flatMap.mp a;have f:=zr N.s.w e;have d:=vz c;exact((N.m i _ _ d (W0 N.s N.hl c)).2 k).mpr (.inl ⟨y.1,MM d e,ih y.1 f ⋯ a k b⟩)
def IX(N:Sn ls ps gs hs):∀{i:Nat} {t:Int},i<⇑ps->0<=t->(reach ps gs i t).Pairwise (Dj gs hs):=by
 intro i
 induction i using Nat.strongRecOn with
 | ind i ih=>
  intro t l r;by_cases h:gs∘i<=t\/cT ps gs i=[]
  .rw[zn h];exact pairwise_singleton _ _
  .rw[yR N.s.w h];refine List.pairwise_flatMap.mpr ⟨λa c=>?_,(MN N l r).imp_of_mem λ{a b} c j d x g y o z k m f=>?_⟩
   .have:=zr N.s.w c;exact ih a.1 this ⋯ (xG (λq n=>N.nS n) c)
   .have s:=zr N.s.w c;have u:=zr N.s.w j;have p:i9 gs a=false:=by
     cases e:i9 gs a with
     | false=>rfl
     | true=>
      rw[zn (.inl (of_decide_eq_true e))]at g
      simp_all
    exact d p k (CK N ⋯ g k m) (CK N ⋯ o k f)
noncomputable def l0(ls:L4)(ps:N1)(h:L5)(x:Nat×Int):L5:=match ps[x.1]? with
 | some (_,.rise y v n)=>h.set (cS (cb ls) y) (Rp.ramp (h∘(cS (cb ls) y)) v n x.2)
 | _=>h
def As{h:L5}{x:Nat×Int}(c:i9 gs x=true):ib ls ps gs E h x=gi (E.getD x.1 []) h:=by
 unfold ib;rw[vd (of_decide_eq_true c)];rfl
def Au{h:L5}{x:Nat×Int}(c:i9 gs x=false):ib ls ps gs E h x=l0 ls ps h x:=by
 unfold ib;rw[vc (of_decide_eq_false c)];rfl
theorem Ck{k:Nat}{v:Int}:∀{es:Np} {h:L5},(∀q∈es,q.1.toNat≠k)->gi es (h.set k v)=(gi es h).set k v
 | [],_,_=>rfl
 | q::r,h,n=>by
  rw[wI,wI,List.set_comm _ _ (n q vq).symm];exact Ck λy a=>n y (vp _ a)
theorem XI{k:Nat}:∀{es:Np} {h:L5},(∀q∈es,q.1.toNat≠k)->(gi es h).getD k 0=h∘k
 | [],_,_=>rfl
 | q::r,h,n=>by
  rw[wI,XI λy a=>n y (vp _ a),vy,vy,List.getElem?_set_ne (n q vq)]
def IK(N:Sn ls ps gs hs)(b:⇑E=⇑ps)(c:dF ls ps E)(hi:i<⇑ps)(a:q∈E.getD i []):q.1∈hs.getD i []:=by
 have:=N.s.mv _ (by simp_all) (El b c) i hi;rw[<-this,vy,vv,vz ⋯];rw[vy,vz ⋯]at a;exact vK.mpr ⟨q,a,rfl⟩
def Iw(N:Sn ls ps gs hs)(o:⇑E=⇑ps)(i:dF ls ps E){x y:Nat×Int}(k:x.1<⇑ps)(l:y.1<⇑ps)(a:i9 gs x=false)(c:i9 gs y=true)(d:Dj gs hs x y)(h:L5) :
  ib ls ps gs E (ib ls ps gs E h x) y=ib ls ps gs E (ib ls ps gs E h y) x:=by
 rw[As c,As c,Au a,Au a];unfold l0;split
 .rename_i nm z v n hp;have j:((cS (cb ls) z:Nat):Int)∈hs.getD x.1 []:=((N.m x.1 _ _ hp (W0 N.s N.hl k)).2 _).mpr (.inr ⟨z,v,n,rfl,rfl⟩);have g:∀q∈E.getD y.1 [],q.1.toNat≠cS (cb ls) z:=λq f e=>by
   have b:=(Kj N.s.w ⋯ i y.1 q f).1;have m:=IK N o i l f;rw[show q.1=((cS (cb ls) z:Nat):Int) by lia]at m;exact d a _ j m
  rw[Ck g,XI g]
 .rfl
noncomputable def gK(ls:L4)(ps:N1)(gs:L5)(E:L0)(t:Int):L5:=((reach ps gs (⇑ps-1) t).filter (i9 gs)).foldl (λh x=>gi (E.getD x.1 []) h) (ls.map (·.2))
def GY{x:Nat×Int}{y:Str}{v n:Int}{nm:Str}(a:ps[x.1]?=some (nm,.rise y v n)):eO ps gs x=true:=by
 unfold eO cT;rw[a];rfl
def GK{x:Nat×Int}{y:Str}{n:Int}{nm:Str}(a:ps[x.1]?=some (nm,.ring y n)):eO ps gs x=true:=by
 unfold eO cT;rw[a];rfl
def Fz(N:Sn ls ps gs hs)(o:⇑E=⇑ps)(q:dF ls ps E)(r:0<=t){P:L3}(l:P.filter (eO ps gs)=(reach ps gs (⇑ps-1) t).filter λx=>!i9 gs x) :
  P.foldl (l0 ls ps) (gK ls ps gs E t)=cQ ls ps gs E t:=by
 have s:=N.ne;have i:∀x∈reach ps gs (⇑ps-1) t,x.1<⇑ps:=λx e=>CJ N.s.w ⋯ e
 rw[<-wk (p:=eO ps gs) (λx Z c h=>?_),l]
 .unfold cQ gK;rw[<-wj (p:=i9 gs) (f:=ib ls ps gs E) ((IX N (show ⇑ps-1<⇑ps by lia) r).imp_of_mem λ{a b} m n d j k h=>Iw N o q (i a m) (i b n) j k d h)];rw[wm (f:=ib ls ps gs E) (g:=l0 ls ps) λx e h=>Au (by simp_all)];rw[wm (f:=ib ls ps gs E) (g:=λh x=>gi (E.getD x.1 []) h) λx e h=>As (vP.mp e).2]
 .unfold l0;split
  .rename_i hp;rw[GY hp]at c;cases c
  .rfl
def Fy(N:Sn ls ps gs hs){P:L3}(a:P.filter (eO ps gs)=(reach ps gs (⇑ps-1) t).filter λx=>!i9 gs x):P.flatMap (dZ ps)=eW ps gs t:=by
 have d:=N.ne;unfold eW;rw[<-Y3 (p:=eO ps gs) (λx j c=>?_),a,Y3 λx b c=>?_]
 .have c:i9 gs x=true:=by simpa using c
  have c:=of_decide_eq_true c;have:=(N.g (CJ N.s.w (show ⇑ps-1<⇑ps by lia) b)).1;unfold dZ;split
  .rw[vc ⋯]
  .rfl
 .unfold dZ;split
  .rename_i hp;rw[GK hp]at c;cases c
  .rfl
end
structure cV(C:Addr)(H:Hp)(a:Addr)(z:Sa)(ls:L4)(ps:N1)(gs:L5)(E:L0):Prop where
 ob:∃dx,H a=some (.ins C dx (iZ z))
 hd:H z.d=some (.dK (gr (cb ls)))
 hf:H z.f=some (.lst ((ls.map (·.2)).map V.int))
 ho:H z.o=some (.lst (z.fb.map V.ref))
 fo:cn (λa p=>cu H a p.2) z.fb ps
 hs:H z.s=some (.lst (gs.map V.int))
 hl:H z.l=some (.lst (z.la.map V.ref))
 el:⇑E=⇑ps
 ea:me H z.la E
 eo:dF ls ps E
 hp:H z.p=some (.lst (z.pa.map V.ref))
 pa:nG H z.pa (ps.map λp=>fh gs p.2 (cK ps p.2))
def cV.same{C:Addr}{H H':Hp}{a:Addr}{z:Sa}{ls:L4}{ps:N1}{gs:L5}{E:L0}(A:cV C H a z ls ps gs E)(s:cj H H'):cV C H' a z ls ps gs E:=
 ⟨A.ob.imp λg h=>s _ _ h,s _ _ A.hd,s _ _ A.hf,s _ _ A.ho,cn.mono A.fo λa p h=>cu.same s h,s _ _ A.hs,s _ _ A.hl,A.el,cn.mono A.ea λa e ⟨c,d,f⟩=>⟨c,s _ _ d,cn.mono f λb q h=>s _ _ h⟩,A.eo,
  s _ _ A.hp,cn.mono A.pa λa e ⟨c,d,f⟩=>⟨c,s _ _ d,cn.mono f λb q h=>s _ _ h⟩⟩
inductive fP(C:Addr)(vs:N2)(H:Hp)(Q:VK)(xk:XK):Prop
 | mk (a:Addr) (z:Sa) (ls:L4) (ps:N1) (gs:L5) (hs:L1) (E:L0) (t:Int) (_:vs=[.ref a,.int t]) (_:cV C H a z ls ps gs E) (_:Sn ls ps gs hs) (_:0<=t) (_:t<=gs∘(⇑ps-1)) (_:∀(l:Addr) (H':Hp),cj H H'->H l=none->H' l=some (.lst ((cQ ls ps gs E t).map V.int))->⇑(cQ ls ps gs E t)=⇑ls->Q (.ref l) H'):fP C vs H Q xk
inductive hF(C:Addr)(vs:N2)(H:Hp)(Q:VK)(xk:XK):Prop
 | mk (a:Addr) (z:Sa) (ls:L4) (ps:N1) (gs:L5) (hs:L1) (E:L0) (t:Int) (_:vs=[.ref a,.int t]) (_:cV C H a z ls ps gs E) (_:Sn ls ps gs hs) (_:0<=t) (_:t<=gs∘(⇑ps-1)) (_:∀(l:Addr) (H':Hp),cj H H'->H l=none->H' l=some (.lst ((eW ps gs t).map V.str))->⇑(eW ps gs t)<=5000->Q (.ref l) H'):hF C vs H Q xk
def cu.put{H H':Hp}{a:Addr}{f:Fm}(k:∀b xs,H b=some (.tup xs)->H' b=some (.tup xs))(h:cu H a f):cu H' a f:=by
 cases f with
 | row ps=>let⟨c,d,e⟩:=h;exact⟨c,k _ _ d,k _ _ e⟩
 | side ps=>let⟨c,d,e⟩:=h;exact⟨c,k _ _ d,k _ _ e⟩
 | hold n=>exact k _ _ h
 | ring x n=>exact k _ _ h
 | rise x v n=>exact k _ _ h
 | again k' x=>exact k _ _ h
theorem Eu{a:Type}{f:a->Nat}:∀{l:List a},(∀x∈l,1<=f x)->⇑l<=(l.map f).sum
 | [],_=>vb _
 | x::r,h=>by
  have c:=h x vq;have d:=Eu (l:=r) λy b=>h y (vp _ b)
  rw[uw,sum_cons,vQ];lia
section
variable{ls:L4}{ps:N1}{gs:L5}{E:L0}{D:L3}{x:Nat×Int}
noncomputable def mG(ls:L4)(gs:L5)(E:L0)(D:L3):L5:=(D.filter (i9 gs)).foldl (λh x=>gi (E.getD x.1 []) h) (ls.map (·.2))
def WY(h:i9 gs x=false):mG ls gs E (if eO ps gs x=true then D++[x]else D)=mG ls gs E D:=by
 split
 .unfold mG;rw[filter_append,filter_cons_of_neg (by rw[h];decide)]
  simp_all
 .rfl
def WZ(h:i9 gs x=true):mG ls gs E (D++[x])=gi (E.getD x.1 []) (mG ls gs E D):=by
 unfold mG;rw[filter_append,filter_cons_of_pos h,foldl_append];rfl
def Xz(W:eE ls ps){i:Nat}{t:Int}(c:t<gs∘i):1+((fV gs t (cT ps gs i)).map λx=>nodes ps gs x.1 x.2).sum<=nodes ps gs i t:=by
 by_cases e:cT ps gs i=[]
 .rw[e,kL (.inr e)];exact vb _
 .rw[W6 W (λh=>h.elim (λz=>⋯) e)];exact vb _
end
structure sO(ls:L4)(ps:N1)(gs:L5)(E:L0)(t0:Int)(H H':Hp)(p1 p2 p4:Addr)(pas tas:L7)(D P S:L3):Prop where
 sm:cj H H'
 e1:H' p1=some (.lst ((mG ls gs E D).map V.int))
 e2:H' p2=some (.lst (pas.map V.ref))
 eT:H' p4=some (.lst (tas.map V.ref))
 gP:fB H' pas P
 gT:fB H' tas S
 inv:D++S.reverse.flatMap (λx=>reach ps gs x.1 x.2)=reach ps gs (⇑ps-1) t0
 hS:∀x∈S,x.1<⇑ps/\0<=x.2
 hP:P.filter (eO ps gs)=D.filter λx=>!i9 gs x
 bP:∀x∈P,x.1<⇑ps/\0<=x.2/\x.2<gs∘x.1
 NU:⇑P+(S.map λx=>nodes ps gs x.1 x.2).sum<=5000
 ll:⇑(mG ls gs E D)=⇑ls
 hb:∀h∈mG ls gs E D,0<=h/\h<=10^18
noncomputable def dP(c k:Int):Int:=(c%10^30+k*k+1)*314159265358979323846264338327%(10^30+57)
def QZ(c k:Int):0<=dP c k/\dP c k<10^30+57:=⟨ve _ nofun,vf _ nofun⟩
def kc:Sp:=λvs H Q j=>∃c k:Int,vs=[.int c,.int k]/\0<=k/\k<=10^20/\Q (.int (dP c k)) H
inductive gY(K:cG)(vs:N2)(H:Hp)(Q:VK)(xk:XK):Prop
 | mk (a:Addr) (ns:L5) (j k:Int) (_:vs=[.ref a,.int j,.int k]) (_:cm K H a (ns.map V.int)) (_:⇑ns<=63) (_:0<=j) (_:j<=60) (_:0<=k) (_:k<=10^18) (_:Q (.int (dP (Pr.cell ns j) k*dP (Pr.cell ns (j+1)) (k+20))) H):gY K vs H Q xk
noncomputable def fU(x y m:Int):Int×Int×Int:=if 0<x then(x%m,x/m,y)else(dP ((y+m)*314159265358979323846264338327%(10^30+57)) m/1000%m,x,dP ((y+m)*314159265358979323846264338327%(10^30+57)) m)
def Jv(h:1<=m):0<=(fU x y m).1/\(fU x y m).1<m:=by
 unfold fU;split<;>exact⟨ve _ ⋯,vf _ ⋯⟩
inductive fT(vs:N2)(H:Hp)(Q:VK)(xk:XK):Prop
 | mk (p:Addr) (x y m:Int) (_:vs=[.ref p,.int m]) (_:H p=some (.lst [.int x,.int y])) (_:1<=m) (_:m<=10^20) (_:0<=y) (_:y<10^30+57) (_:∀H',Ex p H H'->H' p=some (.lst [.int (fU x y m).2.1,.int (fU x y m).2.2])->Q (.int (fU x y m).1) H'):fT vs H Q xk
noncomputable def BL:Str:=Str.ofString "abcdefghijklnopqrstuvwxyz"
noncomputable def i2(p k:Nat):Str:=Txt.slice "mm" none (some (p:Int))++(⟨#[BL.cps.toList.getD (k%25) 97]⟩:Str)++(⟨#[if k<25 then 110 else 111]⟩:Str)++Txt.slice "mm" (some (p:Int)) none
inductive gJ(vs:N2)(H:Hp)(Q:VK)(xk:XK):Prop
 | mk (p k:Nat) (_:vs=[.int (p:Nat),.int (k:Nat)]) (_:p<3) (_:k<50) (_:Q (.str (i2 p k)) H):gJ vs H Q xk
def BY:⇑(Txt.slice x a b)<=⇑x:=IF
noncomputable def lH(nm:L8)(gs:L5):List (Key×V):=(nm.zip gs).map λp=>(Sum.inr p.1,.int p.2)
def Cg(h:⇑nm=⇑gs):(lH nm gs).map (·.1)=nm.map Sum.inr:=by
 unfold lH;rw[uz];have e:(Function.comp (λx:Key×V=>x.1) λp:Str×Int=>((Sum.inr p.1:Key),V.int p.2))=Function.comp (λx:Str=>(Sum.inr x:Key)) Prod.fst:=rfl;rw[e,<-uz,List.map_fst_zip ⋯]
def Wk(c:nm.Nodup)(h:⇑nm=⇑gs)(b:j<⇑nm):eK (lH nm gs) (Sum.inr (nm.getD j ⟨#[]⟩))=some (.int (gs∘j)):=by
 refine xE (j:=j) (by rw[Cg h];exact pairwise_map.mpr (c.imp λh e=>h (Sum.inr.inj e))) ?_;have a:j<⇑gs:=⋯
 have e:(nm.zip gs)[j]?=some (nm[j],gs[j]):=List.getElem?_zip_eq_some.mpr ⟨vz b,vz a⟩;unfold lH
 simp_all
inductive gI(vs:N2)(H:Hp)(Q:VK)(xk:XK):Prop
 | mk (fa d:Addr) (f:Fn) (nm:L8) (gs:L5) (L:L8) (M:L1) (_:vs=[.ref fa,.ref d]) (_:cu H fa (dy nm f)) (_:H d=some (.dK (lH nm gs))) (_:nm.Nodup) (_:⇑nm=⇑gs) (_:fe L M ⇑nm f) (_:(∀j,j<⇑nm->1<=gs∘j/\gs∘j<=10^60)) (_:∀(g:Int) (H':Hp),cj H H'->gO gs f g->Q (.int g) H'):gI vs H Q xk
def nH(H:Hp)(as:L7)(Ms:List L8):Prop:=cn (λa ks=>H a=some (.lst (ks.map V.str))) as Ms
noncomputable def tN:Fn->L6
 | .row is=>is
 | .side is=>is
 | _=>[]
def mO(Ms:List L8)(f:Fn)(ks:L8):Prop:=ks.Nodup/\∀s,s∈ks↔(∃j∈f.js,s∈Ms.getD j [])\/∃h n,f = .rise s h n
inductive fY(vs:N2)(H:Hp)(Q:VK)(xk:XK):Prop
 | mk (fa nl ml:Addr) (mas:L7) (f:Fn) (nm:L8) (Ms:List L8) (L:L8) (M:L1) (_:vs=[.ref fa,.ref nl,.ref ml]) (_:cu H fa (dy nm f)) (_:H nl=some (.lst (nm.map V.str))) (_:H ml=some (.lst (mas.map V.ref))) (_:nH H mas Ms) (_:nm.Nodup) (_:Ms.length=⇑nm) (_:⇑nm<=20) (_:fe L M ⇑nm f) (_:(∀ks∈Ms,⇑ks<=8)) (_:∀(l:Addr) (ks:L8) (H':Hp),cj H H'->H l=none->H' l=some (.lst (ks.map V.str))->mO Ms f ks->⇑ks<=80->Q (.ref l) H'):fY vs H Q xk
theorem Af(n:Str):∀hs:L8,nO (.str n) (hs.map V.str)=decide (n∈hs)
 | []=>by simp[nO]
 | h::r=>by
  have a:=Af n r;unfold nO at a|-;rw[uw,any_cons,a];have e:mF (.str h) (.str n)=decide (h=n):=by
   show(h==n)=_
   lia
  rw[e,Bool.eq_iff_iff]
  grind
theorem lP:∀hs:L8,(hs.map V.str).all ff=true
 | []=>rfl
 | h::r=>by rw[uw,all_cons,lP r];rfl
def tx{xs:L8}(d:xs.Nodup){j:Nat}(g:j<⇑xs):(xs.map V.str)[j]?=some (.str (xs.getD j ⟨#[]⟩))/\mF (.str (xs.getD j ⟨#[]⟩)) (.str (xs.getD j ⟨#[]⟩))=true/\∀(n:Nat) (z:V),n<j->(xs.map V.str)[n]?=some z->mF z (.str (xs.getD j ⟨#[]⟩))=false:=by
 have h:xs[j]?=some (xs.getD j ⟨#[]⟩):=by simp_all
 refine⟨by rw[vv,h];rfl,(by show(xs.getD j ⟨#[]⟩==xs.getD j ⟨#[]⟩)=true;exact beq_self_eq_true _),λn z i c=>?_⟩;rw[vv]at c;let⟨w,f,rfl⟩:=vg.mp c;show(w==xs.getD j ⟨#[]⟩)=false;refine beq_eq_false_iff_ne.mpr λe=>?_
 rw[<-e]at h;have a:=Je d f;have b:=Je d h;lia
noncomputable def hJ(L ks:L8):L5:=((List.range ⇑L).filter λi=>decide (L.getD i ⟨#[]⟩∈ks)).map λi:Nat=>(i:Int)
def yO:k∈hJ L ks↔∃(i:Nat) (s:Str),L[i]?=some s/\s∈ks/\k=(i:Int):=by
 unfold hJ;constructor
 .intro h;let⟨i,d,rfl⟩:=vK.mp h;let⟨a,c⟩:=vP.mp d;have b:=v7.mp a;refine⟨i,L[i],vz b,?_,rfl⟩;have:=of_decide_eq_true c;rw[vy,vz b]at this;exact this
 .rintro⟨i,s,a,c,rfl⟩;have b:=(vx.mp a).1;refine vK.mpr ⟨i,vP.mpr ⟨v7.mpr b,vG ?_⟩,rfl⟩;rw[vy,a];exact c
def My:(hJ L ks).Pairwise (· < ·):=by
 unfold hJ;refine pairwise_map.mpr ?_;refine(List.Pairwise.filter _ (List.pairwise_lt_range (n:=⇑L))).imp λ{a b} h=>?_
 lia
def pZ(L:L8)(Ms:List L8):Prop:=∀ks∈Ms,ks.Nodup/\∀s∈ks,s∈L
def pZ.at'(I:pZ L Ms)(j:Nat):∀s∈Ms.getD j [],s∈L:=λs a=>by
 rw[vy]at a;cases e:Ms[j]? with
 | none=>rw[e]at a;cases a
 | some ks=>rw[e]at a;exact(I ks (vm e)).2 s a
def HR{a b:L8}(d:a.Nodup)(h:∀x∈a,x∈b):⇑a<=⇑b:=by
 induction a generalizing b with
 | nil=>exact va _
 | cons x r ih=>
  rw[ug]at d;have f:=h x vq;have:=ih (b:=b.erase x) d.2 λy g=>by
   have c:y≠x:=λe=>d.1 (e▸g)
   exact(List.mem_erase_of_ne c).mpr (h y (vp _ g))
  rw[List.length_erase_of_mem f]at this;have:0<⇑b:=List.length_pos_of_mem f;rw[vQ];lia
def pZ.len{L:L8}{Ms:List L8}(I:pZ L Ms){ks:L8}(h:ks∈Ms):⇑ks<=⇑L:=HR (I ks h).1 (I ks h).2
def Kz{L:L8}{Ms:List L8}(j:Nat):(Ms.map (hJ L)).getD j []=hJ L (Ms.getD j []):=by
 rw[vy,vy,vv];cases Ms[j]? with
 | none=>
  show[]=hJ L [];refine(List.eq_nil_iff_forall_not_mem.mpr λk a=>?_).symm;let⟨Z,Z,Z,h,Z⟩:=yO.mp a;cases h
 | some x=>rfl
def Mz(h:∀s∈ks,s∈L)(n:ks≠[]):hJ L ks≠[]:=λz=>by
 let⟨s,a⟩:=List.exists_mem_of_ne_nil ks n;let⟨i,b⟩:=List.mem_iff_getElem?.mp (h s a);have:=yO.mpr ⟨i,s,b,a,rfl⟩;rw[z]at this;cases this
def ji(Ms:List L8)(is:L6):Prop:=(∀j∈is,Ms.getD j []≠[])/\is.Pairwise λa b=>∀s∈Ms.getD a [],¬s∈Ms.getD b []
def ji.n(I:pZ L Ms)(h:ji Ms is):nv (Ms.map (hJ L)) is:=by
 refine⟨λj g=>?_,h.2.imp λ{a b} d k f c=>?_⟩
 .rw[Kz];exact Mz (I.at' j) (h.1 j g)
 .rw[Kz]at f c;let⟨i,s,n,o,rfl⟩:=yO.mp f;let⟨l,r,p,q,e⟩:=yO.mp c;have m:i=l:=⋯
  simp_all
def mO.n(h:mO Ms f ks):mM L (Ms.map (hJ L)) f (hJ L ks):=by
 refine⟨My,λk=>?_⟩;rw[yO];constructor
 .rintro⟨i,s,a,b,rfl⟩;rcases(h.2 s).mp b with⟨j,c,g⟩ | ⟨v,n,e⟩
  .exact .inl ⟨j,c,by rw[Kz];exact yO.mpr ⟨i,s,a,g,rfl⟩⟩
  .exact .inr ⟨s,v,n,i,e,a,rfl⟩
 .rintro(⟨j,c,d⟩ | ⟨x,v,n,i,e,a,rfl⟩)
  .rw[Kz]at d;let⟨i,s,a,b,rfl⟩:=yO.mp d;exact⟨i,s,a,(h.2 s).mpr (.inl ⟨j,c,b⟩),rfl⟩
  .exact⟨i,x,a,(h.2 x).mpr (.inr ⟨v,n,e⟩),rfl⟩
def mO.E1{L:L8}{Ms:List L8}{f:Fn}{ks:L8}{M:L1}{n:Nat}(I:pZ L Ms)(p:fe L M n f)(h:mO Ms f ks):ks.Nodup/\∀s∈ks,s∈L:=by
 refine⟨h.1,λs c=>?_⟩;rcases(h.2 s).mp c with⟨j,_,b⟩ | ⟨v,n,e⟩
 .exact I.at' j s b
 .subst e;let⟨⟨i,a⟩,Z⟩:=p;exact vm a
def mL.vU{L:L8}{h:List Fn}{M:L1}{gs:L5}{f:Fn}{ks:L5}{g:Int}(D:mL L h M gs)(q:fe L M ⇑h f)(u:mM L M f ks)(v:gO gs f g)(w:1<=g/\g<=10^60):mL L (h++[f]) (M++[ks]) (gs++[g]):=by
 have r:=D.ml;have p:=D.gl;refine⟨by simp[r],by simp[p],λi o d=>?_,λi l=>?_⟩
 .by_cases l:i<⇑h
  .rw[vB l]at d;let⟨a,b,c⟩:=D.f i o d;have m:=a.js.2;rw[QY ⋯,QY ⋯];exact⟨a.ext ⋯,b.ext λj k=>by have:=m j k;lia,c.ext λj k=>by have:=m j k;lia⟩
  .rw[vC ⋯]at d;have n:i=⇑h:=by
    have:=(vx.mp d).1;simp at this;lia
   subst n;rw[Nat.sub_self]at d;have e:o=f:=(vL d).symm;subst e;have m:=q.js.2;have s:(M++[ks]).getD ⇑h []=ks:=by rw[<-r];exact yK
   have t:(gs++[g]).getD ⇑h 0=g:=by rw[<-p];exact yK
   rw[s,t];exact⟨q.ext ⋯,u.ext λj k=>by have:=m j k;lia,v.ext λj k=>by have:=m j k;lia⟩
 .rw[vn]at l;have l:i<⇑h+1:=l;by_cases c:i<⇑h
  .rw[QY ⋯];exact D.g i c
  simp_all
def Lh(p:fe L M n f)(l:gO gs f g)(b:∀j,j<n->1<=gs∘j):1<=g:=by
 cases f with
 | hold m=>let⟨c,o⟩:=p;have e:g=m:=l;lia
 | ring x m=>let⟨c,o,Z⟩:=p;have e:g=m:=l;lia
 | rise x v m=>let⟨Z,Z,Z,c,o⟩:=p;have e:g=m:=l;lia
 | row is=>
  let⟨c,o,d⟩:=p;have e:g=(is.map λj=>gs∘j).sum:=l;have q:∀a:L6,(∀j∈a,j<n)->0<=(a.map λj=>gs∘j).sum:=λa=>by
   induction a with
   | nil=>exact λZ=>vA _
   | cons j a ih=>
    intro h;rw[uw,sum_cons];have:=b j (h j vq);have:=ih λi r=>h i (vp _ r)
    lia
  cases is with
  | nil=>exact ub rfl c
  | cons j a=>
   rw[e,uw,sum_cons];have u:=b j (d j vq);have:=q a λi r=>d i (vp _ r)
   lia
 | side is=>
  let⟨Z,Z,d,Z⟩:=p;let⟨⟨j,t,e⟩,Z⟩:=l;have:=b j (d j t);lia
 | again k j=>
  let⟨c,o,d⟩:=p;have e:g=k*gs∘j:=l;have s:=b j d;have:=Int.mul_le_mul c s nofun ⋯;lia
def gO.uniq(h:gO gs f g)(h':gO gs f g'):g=g':=by
 cases f with
 | side is=>
  let⟨⟨j,b,e⟩,m⟩:=h;let⟨⟨c,a,i⟩,d⟩:=h';have:=m c a;have:=d j b;lia
 | hold n=>exact Eq.trans h (Eq.symm h')
 | ring x n=>exact Eq.trans h (Eq.symm h')
 | rise x v n=>exact Eq.trans h (Eq.symm h')
 | row is=>exact Eq.trans h (Eq.symm h')
 | again k j=>exact Eq.trans h (Eq.symm h')
def mU(xs:L8):PyData.eqv (.list (xs.map PyData.str)) (.list [])=decide (xs=[]):=by
 cases xs<;>simp[PyData.eqv,PyData.eqvAll]
def mZ{xs:L8}(h:∀x∈xs,Ws.fG x=true):SeqAt.shaped (.list (xs.map PyData.str))=true:=(cU.lst (n:=0) (Cn h)).ok nofun
def BO(n:Str)(a:L8):(if false=true then !nO (.str n) (a.map V.str)else nO (.str n) (a.map V.str))=decide (n∈a):=by rw[vc nofun,Af]
def BS{xs:N2}{k:Int}(h:∀v∈xs,∃w:Str,v = .str w/\Ws.fG w=true)(k0:0<=k)(k1:k<(⇑xs:Int)):∃w:Str,ft xs k=some (.str w)/\Ws.fG w=true:=by
 obtain⟨j,rfl⟩:∃j:Nat,k=(j:Int):=⟨k.toNat,⋯⟩
 have a:j<⇑xs:=⋯
 let⟨w,e,b⟩:=h xs[j] (getElem_mem a);exact⟨w,L2.jS (by simp_all),b⟩
def CY{xs:N2}{lo hi:Nu}{v:V}(h:v∈fF xs lo hi):v∈xs:=List.mem_of_mem_drop (mem_of_mem_take h)
def ZJ{nm:L8}{j:Nat}(h:j<⇑nm):ft (nm.map V.str) ((j:Nat):Int)=some (.str (nm.getD j ⟨#[]⟩)):=by
 refine L2.jS ?_
 simp_all
structure ox(nl ml:Addr)(mas:L7)(L nm:L8)(Ms:List L8)(H:Hp):Prop where
 en:H nl=some (.lst (nm.map V.str))
 em:H ml=some (.lst (mas.map V.ref))
 am:nH H mas Ms
 il:pZ L Ms
 ml:Ms.length=⇑nm
 tF:⇑nm<=20
 l8:⇑L<=8
 w:∀x∈nm,Ws.fG x=true
 lw:∀x∈L,Ws.fG x=true
def ox.same{d c:Addr}{b:L7}{L nm:L8}{Ms:List L8}{H H':Hp}(N:ox d c b L nm Ms H)(s:cj H H'):ox d c b L nm Ms H':=
 ⟨s _ _ N.en,s _ _ N.em,N.am.mono λa x h=>s _ _ h,N.il,N.ml,N.tF,N.l8,N.w,N.lw⟩
def ox.mv{i h:Addr}{a:L7}{L nm:L8}{Ms:List L8}{H:Hp}(N:ox i h a L nm Ms H){j:Nat}(f:j<⇑nm):∃b,a[j]?=some b/\H b=some (.lst ((Ms.getD j []).map V.str))/\⇑(Ms.getD j [])<=8/\∀x∈Ms.getD j [],Ws.fG x=true:=by
 have e:Ms[j]?=some (Ms.getD j []):=by rw[vy,vz (by rw[N.ml];exact f)];rfl
 let⟨b,c,d⟩:=N.am.get e;have:=N.il.len (vm e);have:=N.l8;exact⟨b,c,d,⋯,λx g=>N.lw x (N.il.at' j x g)⟩
def ur(H:Hp)(bd:Addr)(b0 b1 b2 b3 b4:Int):Prop:=H bd=some (.lst [.int b0,.int b1,.int b2,.int b3,.int b4])/\1<=b0/\b0<=10^18/\1<=b1/\b1<=10^18/\1<=b2/\b2<=10^18+1/\1<=b3/\b3<=10^18/\1<=b4/\b4<=10^60
def rq{a c b2 b3 b4 i:Int}(d:1<=a/\a<=10^18)(e:1<=c/\c<=10^18)(f:0<=i)(g:i<2):∃b:Int,ft [V.int a,V.int c,V.int b2,V.int b3,V.int b4] i=some (V.int b)/\1<=b/\b<=10^18:=by
 have:i=0\/i=1:=⋯
 rcases this with rfl | rfl
 .exact⟨a,rfl,d⟩
 .exact⟨c,rfl,e⟩
structure rZ(pl:Addr)(las:L7)(ls:L4)(H:Hp):Prop where
 el:H pl=some (.lst (las.map V.ref))
 la:cn (eU H) las ls
 l1:1<=⇑ls
def rZ.same{H H':Hp}(N:rZ pl las ls H)(s:cj H H'):rZ pl las ls H':=⟨s _ _ N.el,N.la.mono λa x h=>s _ _ h,N.l1⟩
def Ep{H:Hp}(h:Q (.int (10^12)) H):rI ny (λi j=>.int (i^j.toNat)) (.int 10) (.int 12) H Q:=⟨10,12,rfl,rfl,⟨by decide,by decide,by decide⟩,h⟩
inductive gH(vs:N2)(H:Hp)(Q:VK)(xk:XK):Prop
 | mk (nl d:Addr) (nm:L8) (gs:L5) (most:Int) (_:vs=[.ref nl,.ref d,.int most]) (_:H nl=some (.lst (nm.map V.str))) (_:H d=some (.dK (lH nm gs))) (_:nm.Nodup) (_:⇑nm=⇑gs) (_:1<=⇑nm) (_:⇑nm<=20) (_:(∀j,j<⇑nm->1<=gs∘j/\gs∘j<=most)) (_:∀(b:Addr) (is:L6) (H':Hp),cj H H'->H' b=some (.tup ((is.map λj=>nm.getD j ⟨#[]⟩).map V.str))->is≠[]->⇑is<=5->(∀j∈is,j<⇑nm)->Q (.ref b) H'):gH vs H Q xk
noncomputable def lM(n:Int)(len t:Nat):Nat:=(((len:Int)-1-(t:Int)*(1+n%3))%(len:Int)).toNat
noncomputable def fg(n:Int)(len:Nat)(Ms:List L8)(ro:Bool):Nat->L6×L8
 | 0=>([],[])
 | t+1=>if ro=true then(if(t:Int)<1+n/3%5 then((fg n len Ms ro t).1++[lM n len t],(fg n len Ms ro t).2)else fg n len Ms ro t)
  else if Ms.getD (lM n len t) []≠[]/\((Ms.getD (lM n len t) []).filter λs=>decide (s∈(fg n len Ms ro t).2))=[]/\(fg n len Ms ro t).1.length<4 then((fg n len Ms ro t).1++[lM n len t],(fg n len Ms ro t).2++Ms.getD (lM n len t) [])else fg n len Ms ro t
section
variable{n:Int}{len:Nat}{Ms:List L8}{ro:Bool}
def Av(h:1<=len):lM n len t<len:=by
 unfold lM;have a:=ve ((len:Int)-1-(t:Int)*(1+n%3)) (show(len:Int)≠0 by lia);have b:=vf ((len:Int)-1-(t:Int)*(1+n%3)) (show(0:Int)<(len:Int) by lia);lia
def Hw(t:Nat):fg n len Ms ro (t+1)=if ro=true then(if(t:Int)<1+n/3%5 then((fg n len Ms ro t).1++[lM n len t],(fg n len Ms ro t).2)else fg n len Ms ro t)
  else if Ms.getD (lM n len t) []≠[]/\((Ms.getD (lM n len t) []).filter λs=>decide (s∈(fg n len Ms ro t).2))=[]/\(fg n len Ms ro t).1.length<4 then((fg n len Ms ro t).1++[lM n len t],(fg n len Ms ro t).2++Ms.getD (lM n len t) [])else fg n len Ms ro t:=rfl
theorem AZ(h:1<=len):∀(t:Nat) (j:Nat),j∈(fg n len Ms ro t).1->j<len
 | 0,j,hj=>nomatch hj
 | t+1,j,hj=>by
  have a:=AZ h t j;unfold fg at hj;split at hj
  .split at hj
   .rcases vh.mp hj with z | z
    .exact a z
    .rw[vo.mp z];exact Av h
   .exact a hj
  .split at hj
   .rcases vh.mp hj with z | z
    .exact a z
    .rw[vo.mp z];exact Av h
   .exact a hj
theorem D7(b:∀j,⇑(Ms.getD j [])<=8):∀t:Nat,(fg n len Ms ro t).2.length<=8*(fg n len Ms ro t).1.length
 | 0=>vb _
 | t+1=>by
  have a:=D7 b t;have c:=b (lM n len t);unfold fg;split
  .split
   .rw[vn];show(fg n len Ms ro t).2.length<=8*(_+1);lia
   .exact a
  .split
   .rw[vn,vn];show _<=8*(_+1);lia
   .exact a
theorem Wl:∀t:Nat,(fg n len Ms ro t).1.length<=t/\(fg n len Ms ro t).1.length<=5
 | 0=>⟨vb _,va _⟩
 | t+1=>by
  let⟨a,b⟩:=Wl t;have d:=vf (n/3) (show(0:Int)<5 by decide);unfold fg;split
  .split
   .rename_i c;rw[vn];exact⟨by show _+1<=_;lia,by show _+1<=5;lia⟩
   .lia
  .split
   .rename_i c;rw[vn];have:=c.2.2;exact⟨by show _+1<=_;lia,by show _+1<=5;lia⟩
   .lia
theorem D5(a:ro=true):∀t:Nat,0<t->(fg n len Ms ro t).1≠[]
 | 0,h=>ub h ⋯
 | t+1,_=>by
  have b:=ve (n/3) (show(5:Int)≠0 by decide);unfold fg;rw[vd a];split
  .simp_all
  .rename_i c;exact D5 a t ⋯
theorem D4(g:ro=false):∀t:Nat,ji Ms (fg n len Ms ro t).1/\∀s,s∈(fg n len Ms ro t).2↔∃j∈(fg n len Ms ro t).1,s∈Ms.getD j []
 | 0=>⟨⟨(λj h=>nomatch h),.nil⟩,λs=>⟨(λh=>nomatch h),λ⟨j,h,_⟩=>nomatch h⟩⟩
 | t+1=>by
  let⟨e,f⟩:=D4 g t;unfold fg;rw[vc (by rw[g];exact vF)];split
  .rename_i c;let⟨i,k,Z⟩:=c;refine⟨⟨λj o=>?_,List.pairwise_append.mpr ⟨e.2,pairwise_singleton ..,λa l b m s p d=>?_⟩⟩,λs=>?_⟩
   .rcases vh.mp o with z | z
    .exact e.1 j z
    .rw[vo.mp z];exact i
   .rw[vo.mp m]at d;have:s∈(Ms.getD (lM n len t) []).filter λs=>decide (s∈(fg n len Ms ro t).2):=vP.mpr ⟨d,vG ((f s).mpr ⟨a,l,p⟩)⟩
    rw[k]at this;cases this
   simp_all
  .exact⟨e,f⟩
end
inductive g5(vs:N2)(H:Hp)(Q:VK)(xk:XK):Prop
 | mk (n:Int) (nl ml:Addr) (mas:L7) (L nm:L8) (Ms:List L8) (kd:Str) (_:vs=[.int n,.ref nl,.ref ml,.str kd]) (_:ox nl ml mas L nm Ms H) (_:1<=⇑nm) (_:0<=n) (_:n<=10^40) (_:(kd = "row"\/kd = "side")) (_:∀(b:Addr) (H':Hp),cj H H'->H' b=some (.tup (((fg n ⇑nm Ms (decide (kd = "row")) ⇑nm).1.map λj=>nm.getD j ⟨#[]⟩).map V.str))->Q (.ref b) H'):g5 vs H Q xk
inductive iL(vs:N2)(H:Hp)(Q:VK)(xk:XK):Prop
 | mk (n:Int) (nl ml pl bd:Addr) (mas las:L7) (ls:L4) (nm:L8) (Ms:List L8) (b0 b1 b2 b3 b4:Int) (_:vs=[.int n,.ref nl,.ref ml,.ref pl,.ref bd]) (_:ox nl ml mas (cb ls) nm Ms H) (_:rZ pl las ls H) (_:ur H bd b0 b1 b2 b3 b4) (_:0<=n) (_:n<=10^40) (_:∀(a:Addr) (f:Fn) (H':Hp),cj H H'->cu H' a (dy nm f)->fe (cb ls) (Ms.map (hJ (cb ls))) ⇑nm f->Q (.ref a) H'):iL vs H Q xk
def JR(a:0<=y)(b:y<10^30+57):0<=(fU x y m).2.2/\(fU x y m).2.2<10^30+57:=by
 unfold fU;split
 .exact⟨a,b⟩
 .exact QZ _ _
def Off(p:Addr)(H0 H:Hp):Prop:=∀c u,H0 c=some u->c≠p/\H c=some u
def Off.ex{a H H':Hp}(o:Off p a H)(x:Ex p H H'):Off p a H':=λc u h=>⟨(o c u h).1,x c u (o c u h).1 (o c u h).2⟩
def Off.same{a H:Hp}(o:Off p a H):cj a H:=λc u h=>(o c u h).2
inductive gz(vs:N2)(H:Hp)(Q:VK)(xk:XK):Prop
 | mk (p nl ml bd:Addr) (x y kd:Int) (H0:Hp) (mas:L7) (L nm:L8) (Ms:List L8) (b0 b1 b2 b3 b4:Int) (_:vs=[.ref p,.int kd,.ref nl,.ref ml,.ref bd]) (_:H p=some (.lst [.int x,.int y])) (_:0<=y) (_:y<10^30+57) (_:Off p H0 H) (_:ox nl ml mas L nm Ms H0) (_:1<=⇑nm) (_:ur H0 bd b0 b1 b2 b3 b4) (_:∀(a:Addr) (f:Fn) (H':Hp),Ex p H H'->cu H' a (dy nm f)->fe L (Ms.map (hJ L)) ⇑nm f->Q (.ref a) H'):gz vs H Q xk
inductive iM(vs:N2)(H:Hp)(Q:VK)(xk:XK):Prop
 | mk (p nl ml pl bd:Addr) (x y:Int) (H0:Hp) (mas las:L7) (ls:L4) (nm:L8) (Ms:List L8) (b0 b1 b2 b3 b4:Int) (_:vs=[.ref p,.ref nl,.ref ml,.ref pl,.ref bd]) (_:H p=some (.lst [.int x,.int y])) (_:0<=y) (_:y<10^30+57) (_:Off p H0 H) (_:ox nl ml mas (cb ls) nm Ms H0) (_:rZ pl las ls H0) (_:ur H0 bd b0 b1 b2 b3 b4) (_:∀(a:Addr) (f:Fn) (H':Hp),Ex p H H'->cu H' a (dy nm f)->fe (cb ls) (Ms.map (hJ (cb ls))) ⇑nm f->Q (.ref a) H'):iM vs H Q xk
def Dp:∀p,p<3->(decide ((List.range 50).map (i2 p)).Nodup&&((List.range 50).map (i2 p)).all λx=>Ws.fG x)=true:=by trivial
def Dq(c:p<3)(hi:i<50)(g:j<50)(e:i2 p i=i2 p j):i=j:=by
 have h:=Dp p c;rw[Bool.and_eq_true,decide_eq_true_eq]at h;have a:((List.range 50).map (i2 p))[i]?=some (i2 p i):=by rw[vv,List.getElem?_range hi];rfl
 have b:((List.range 50).map (i2 p))[j]?=some (i2 p i):=by simp_all
 have d:=Je h.1 a;have f:=Je h.1 b;lia
def EL(a:p<3)(hi:i<50):Ws.fG (i2 p i)=true:=by
 have h:=Dp p a
 simp_all
noncomputable def nu(p m:Nat):L8:=(List.range m).map (i2 p)
def Eg(h:j<m):(nu p m)[j]?=some (i2 p j):=by unfold nu;rw[vv,List.getElem?_range h];rfl
def Cv:nu p (m+1)=nu p m++[i2 p m]:=by unfold nu;rw[range_succ,vj];rfl
def Eh(c:p<3)(j:m<=9):(nu p m).Nodup/\∀x∈nu p m,Ws.fG x=true:=by
 unfold nu;refine⟨pairwise_map.mpr (List.nodup_range.imp_of_mem λ{a b} d f n e=>n (Dq c (by have:=v7.mp d;lia) (by have:=v7.mp f;lia) e)),λx h=>?_⟩
 .let⟨i,g,rfl⟩:=vK.mp h;have:=v7.mp g;exact EL c ⋯
noncomputable def nj(st c m k:Nat):Nat:=if k=c then k%m else st+k
noncomputable def nP(p st c m:Nat):L8:=(List.range 17).map λk=>i2 p (nj st c m k)
def DD{p st c m:Nat}:⇑(nP p st c m)=17:=by unfold nP;simp_all
def DC{p st c m k:Nat}(h:k<17):(nP p st c m).getD k ⟨#[]⟩=i2 p (nj st c m k):=by
 unfold nP
 simp_all
def D3{p st c m:Nat}(f:p<3)(q:1<=m)(r:m<=st)(h:st<=9):(nP p st c m).Nodup/\∀x∈nP p st c m,Ws.fG x=true:=by
 have b:∀k,k<17->nj st c m k<50:=λk o=>by
  unfold nj;have:=Nat.mod_lt k (show 0<m by lia);split<;>lia
 unfold nP;refine⟨pairwise_map.mpr (List.nodup_range.imp_of_mem λ{x y} a d n e=>?_),λx a=>?_⟩
 .have a:=v7.mp a;have d:=v7.mp d;have:=Dq f (b x a) (b y d) e;unfold nj at this;have j:=Nat.mod_lt x (show 0<m by lia);have l:=Nat.mod_lt y (show 0<m by lia);refine n ?_;split at this<;>split at this<;>lia
 .let⟨i,g,rfl⟩:=vK.mp a;exact EL f (b i (v7.mp g))
def E7{a:L8}{b:List Fn}{f:Fn}:cA a (b++[f])=cA a b++[(a.getD ⇑b ⟨#[]⟩,dy a f)]:=by
 unfold cA;rw[vn,vS,range_succ,vj];congr 1
 .refine map_congr_left λj c=>?_
  rw[QY (v7.mp c)]
 .rw[uw,yK];rfl
def xB(h:fe L M n f):dy (names.take n) f=dy names f:=by
 have g:∀j,j<n->(names.take n).getD j ⟨#[]⟩=names.getD j ⟨#[]⟩:=λj a=>by
  simp_all
 have b:=h.js.2;cases f with
 | row is=>exact congrArg Fm.row (map_congr_left λj a=>g j (b j a))
 | side is=>exact congrArg Fm.side (map_congr_left λj a=>g j (b j a))
 | again k j=>exact congrArg (Fm.again k) (g j (b j vq))
 | hold n=>rfl
 | ring x n=>rfl
 | rise x v n=>rfl
def HN(h:⇑nm=⇑gs):lH (nm++[x]) (gs++[g])=lH nm gs++[(Sum.inr x,.int g)]:=by
 unfold lH;rw[List.zip_append h,vj];rfl
def Dw(h:⇑nm=⇑gs)(n:x∉nm):putK (lH nm gs) (Sum.inr x) (.int g)=lH (nm++[x]) (gs++[g]):=by
 rw[HN h,YJ];rw[Cg h]
 simp_all
def Dv(h:⇑nm=⇑gs):⇑(lH nm gs)=⇑nm:=by
 unfold lH
 simp_all
structure m5(pl nl ml d pp:Addr)(las pas mas:L7)(ls:L4)(names:L8)(fs:List Fn)(Ms:List L8)(gs:L5)(b4:Int)(H:Hp):Prop where
 n:ox nl ml mas (cb ls) (names.take ⇑fs) Ms H
 l:rZ pl las ls H
 ed:H d=some (.dK (lH (names.take ⇑fs) gs))
 ep:H pp=some (.lst (pas.map V.ref))
 pa:cn (dG H) pas (cA names fs)
 dk:mL (cb ls) fs (Ms.map (hJ (cb ls))) gs
 gb:∀j,j<⇑fs->gs∘j<=b4
 fl:⇑fs<=⇑names
def m5.same{H H':Hp}(B:m5 pl nl ml d pp las pas mas ls names fs Ms gs b4 H)(s:cj H H'):m5 pl nl ml d pp las pas mas ls names fs Ms gs b4 H':=
 ⟨B.n.same s,B.l.same s,s _ _ B.ed,s _ _ B.ep,B.pa.mono λa x h=>dG.same s h,B.dk,B.gb,B.fl⟩
structure pj(pl nl ml pp bd:Addr)(mas:L7):Prop where
 ln:pl≠nl
 lm:pl≠ml
 lp:pl≠pp
 nm:nl≠ml
 np:nl≠pp
 mp:ml≠pp
 bn:bd≠nl
 bm:bd≠ml
 bp:bd≠pp
 ma:∀a∈mas,a≠nl/\a≠ml/\a≠pp
def pj.add(S:pj pl nl ml pp bd mas)(h:l≠nl/\l≠ml/\l≠pp):pj pl nl ml pp bd (mas++[l]):=
 ⟨S.ln,S.lm,S.lp,S.nm,S.np,S.mp,S.bn,S.bm,S.bp,λa b=>by
  rcases vh.mp b with z | z
  .exact S.ma a z
  .rw[vo.mp z];exact h⟩
def m5.add{pl p o d q L fa l c:Addr}{s n m:L7}{ls:L4}{b:L8}{i:List Fn}{Ms:List L8}{gs:L5}{b4 g:Int}{f:Fn}{ks:L8}{H H':Hp}(B:m5 pl p o d q s n m ls b i Ms gs b4 H)(S:pj pl p o q L m)
  (X:cu H fa (dy b f)) (pre:fe (cb ls) (Ms.map (hJ (cb ls))) ⇑i f) (J:mO Ms f ks) (I:gO gs f g) (Q:g<=b4) (K:b4<=10^60) (fn:⇑i<⇑b) (a0:⇑i<20) (nw:∀x∈b,Ws.fG x=true)
  (k:∀x u,x≠o->x≠p->x≠q->x≠d->H x=some u->H' x=some u) (v:H' o=some (.lst ((m++[l]).map V.ref))) (P:H' l=some (.lst (ks.map V.str))) (w:H' p=some (.lst ((b.take (⇑i+1)).map V.str)))
  (y:H' q=some (.lst ((n++[c]).map V.ref))) (M:H' c=some (.tup [.str (b.getD ⇑i ⟨#[]⟩),.ref fa])) (O:H' d=some (.dK (lH (b.take (⇑i+1)) (gs++[g])))) :
  m5 pl p o d q s (n++[c]) (m++[l]) ls b (i++[f]) (Ms++[ks]) (gs++[g]) b4 H':=by
 have N:=B.n;have F:∀c r,H c=some (.tup r)->H' c=some (.tup r):=λc r h=>k c _ (Jz h N.em λz=>by cases z) (Jz h N.en λz=>by cases z) (Jz h B.ep λz=>by cases z) (Jz h B.ed λz=>by cases z) h
 have G:∀{c r},c≠o->c≠p->c≠q->H c=some (.lst r)->H' c=some (.lst r):=λT U W h=>k _ _ T U W (Jz h B.ed λz=>by cases z) h
 have t:⇑(i++[f])=⇑i+1:=by rw[vn];rfl
 have D:=B.dk;have mi:=J.E1 N.il pre;have R:=Lh pre I λj C=>(D.g j C).1
 have gl:=D.gl;refine⟨⟨?_,v,?_,?_,?_,?_,N.l8,λx Z=>nw x (mem_of_mem_take Z),N.lw⟩,⟨G S.lm S.ln S.lp B.l.el,B.l.la.mono λa x h=>F _ _ h,B.l.l1⟩,?_,y,?_,?_,λj C=>?_,⋯⟩
 .rw[t];exact w
 .refine cn.snoc ?_ P;exact cn.mH N.am λa A ks h=>G (S.ma a A).2.1 (S.ma a A).1 (S.ma a A).2.2 h
 .intro E Y;rcases vh.mp Y with z | z
  .exact N.il E z
  .rw[vo.mp z];exact mi
 .have:=N.ml;rw[vi]at this|-;rw[vn,t];show _+1=_;lia
 .rw[vi];lia
 .rw[t];exact O
 .rw[E7];exact cn.snoc (B.pa.mono λa x h=>dG.keep F h) ⟨fa,M,cu.keep F X⟩
 .rw[vj];exact D.vU pre J.n I ⟨R,⋯⟩
 .rw[t]at C;by_cases z:j<⇑i
  .rw[QY ⋯];exact B.gb j z
  .have e:j=⇑gs:=⋯
   subst e;rw[yK];exact Q
inductive fM(K:cG)(vs:N2)(H:Hp)(Q:VK)(xk:XK):Prop
 | mk (a bd:Addr) (ns:L5) (many:Nat) (b0 b1 b2 b3 b4:Int) (_:vs=[.ref a,.int (many:Nat),.ref bd]) (_:cm K H a (ns.map V.int)) (_:⇑ns<=63) (_:2<=many) (_:many<=16) (_:ur H bd b0 b1 b2 b3 b4) (_:∀(r b pl pp:Addr) (las pas:L7) (names:L8) (ls:L4) (fs:List Fn) (M:L1) (gs:L5) (H':Hp),cj H H'->H' r=some (.tup [.ref b,.int (gs∘(⇑fs-1))])->dt H' b pl pp las pas ls (cA names fs)->mL (cb ls) fs M gs->Sn ls (cA names fs) gs M->⇑fs=many+1->⇑names=17->names.Nodup->(∀x∈names,Ws.fG x=true)->1<=⇑ls->⇑ls<=8->(cb ls).Nodup->(∀x∈cb ls,Ws.fG x=true)->pl≠pp->(∀j,j<⇑fs->gs∘j<=b4)->Q (.ref r) H'):fM K vs H Q xk
def m5.book{H:Hp}(B:m5 pl nl ml d pp las pas mas ls names fs Ms gs b4 H)(a:H b=some (.tup [.ref pl,.ref pp])):dt H b pl pp las pas ls (cA names fs):=⟨a,B.l.el,B.l.la,B.ep,B.pa⟩
def mL.vZ{ls:L4}{a:L8}{d:List Fn}{M:L1}{gs:L5}(D:mL (cb ls) d M gs)(B:⇑ls<=8)(w:∀q∈ls,0<=q.2/\q.2<=10^18)(u:∀x∈cb ls,Ws.fG x=true)
  (C:∀x∈a,Ws.fG x=true) (E:⇑d<=⇑a) (o:⇑d<=61):sq ls (cA a d):=by
 have n:∀{j:Nat},j<⇑d->Ws.fG (a.getD j ⟨#[]⟩)=true:=λh=>C _ (getD_in ⋯)
 refine⟨B,λp l=>⟨u _ (vK.mpr ⟨p,l,rfl⟩),(w p l).1,(w p l).2⟩,by rw[zm];exact o,λp l=>?_⟩;let⟨i,z⟩:=List.mem_iff_getElem?.mp l;let⟨f,t,rfl⟩:=QL z;have A:=(vx.mp t).1;have b:=(D.f i f t).1;refine⟨n A,?_⟩;cases f with
 | hold m=>exact⟨by have:=b.1;lia,b.2⟩
 | ring x m=>exact⟨b.2.2,by have:=b.1;lia,b.2.1⟩
 | rise x v m=>
  let⟨⟨j,g⟩,s,c,e,y⟩:=b;exact⟨u x (vm g),s,c,⋯,y⟩
 | row is=>
  let⟨Z,c,e⟩:=b;refine⟨by rw[vt];exact c,λx r=>?_⟩;let⟨j,g,rfl⟩:=vK.mp r;exact n (by have:=e j g;lia)
 | side is=>
  let⟨Z,c,e,Z⟩:=b;refine⟨by rw[vt];exact c,λx r=>?_⟩;let⟨j,g,rfl⟩:=vK.mp r;exact n (by have:=e j g;lia)
 | again k j=>
  let⟨s,c,e⟩:=b;exact⟨⋯,c,n ⋯⟩
section
variable{ls:L4}{ps qs:N1}{C:Nat->Nat->Prop}{g:Nat->Nat}{gs gs':L5}{hs hs':L1}
def IC(S:oy ls ps gs hs)(m:oy ls qs gs' hs')(R:sr ps qs C g):∀i k,C i k->gs'∘k=gs∘i:=by
 intro i
 induction i using Nat.strongRecOn with
 | ind i ih=>
  intro k e;let⟨o,p⟩:=R.lt i k e;have c:ps[i]?=some ps[i]:=vz o;have d:qs[k]?=some qs[k]:=vz p;let⟨t,a,f⟩:=R.f i k _ _ e c d;have n:(cK qs qs[k].2).map (λj=>gs'∘j)=(cK ps ps[i].2).map λj=>gs∘j:=by
   rw[a,uz];exact map_congr_left λj h=>ih j (f j h).1 (g j) (f j h).2
  let⟨q,s⟩:=S.ln i _ c;let⟨r,b⟩:=m.ln k _ d;let⟨v,l⟩:=Ee q;rw[<-s v l];exact(b v (by rw[n];exact((Kq t).2 v).mp l)).symm
def MR(N:Sn ls ps gs hs)(R:sr ps qs C g)(t:1<=⇑qs)(B:eE ls qs):∃gs' hs',Sn ls qs gs' hs'/\gs'∘(⇑qs-1)=gs∘(⇑ps-1):=by
 let⟨gs',hs',o,e,j,A⟩:=IE N.s N.hl N.m R t B;have u:=IC N.s o R;have r:∀(k:Nat) (q:Str×Fm),qs[k]?=some q->∃(i:Nat) (p:Str×Fm),ps[i]?=some p/\iY (λZ Z=>True) p.2 q.2:=λk q b=>by
  have h:=(vx.mp b).1;let⟨i,d⟩:=R.ex k h;have s:=(R.lt i k d).1;exact⟨i,_,vz s,(R.f i k _ _ d (vz s) b).1⟩
 refine⟨gs',hs',⟨o,j,A,λk h=>?_,t,N.Bl,λk y x v n b=>?_,λk y x m b=>?_⟩,e⟩
 .let⟨i,d⟩:=R.ex k h;rw[u i k d];exact N.g1 i (R.lt i k d).1
 .let⟨i,p,l,a⟩:=r k _ b;have D:=a.iH.mpr rfl;exact N.Br i p.1 x v n (by rw[l];exact congrArg some (Prod.ext rfl D))
 .let⟨i,p,l,a⟩:=r k _ b;let⟨z,f⟩:=p;cases f with
  | again m' x'=>
   let⟨E,c,Z⟩:=a;cases c;exact N.BK i z x' _ l
  | row xs=>let⟨Z,c,Z⟩:=a;cases c
  | side xs=>let⟨Z,c,Z⟩:=a;cases c
  | hold n=>exact ub (show Fm.again m x = .hold n from a) (λz=>nomatch z)
  | ring w n=>exact ub (show Fm.again m x = .ring w n from a) (λz=>nomatch z)
  | rise w v n=>exact ub (show Fm.again m x = .rise w v n from a) (λz=>nomatch z)
end
end Rm
namespace L2
open PySem PySem.Spec PyProof.Rows
def C2{K:cG}{n i j k l:Nat}(hi:i<n)(C:j<n)(D:k<n)(E:l<n):gN n (mX K 4 (dX (cC i) (dX (cC j) (dX (cC k) (dX (cC l) mW))))):=λx G H Q q=>by
 let⟨a,B,d,f,g,v,r,h,z,w,o,c,b,p,A,y,s,t,q⟩:=q;refine⟨a,B,d,f,g,v,r,h,z,w,o,c,b,p,A,y,s,t,λm u F e=>?_,q⟩;rw[List.getElem?_set_ne ⋯,List.getElem?_set_ne ⋯,List.getElem?_set_ne ⋯,List.getElem?_set_ne ⋯];exact e
open PySem PySem.Spec PySem.W PyProof.Rows
noncomputable abbrev KO:=Option Int
noncomputable def oK:KO->Value->Bool
 | some k,v=>Value.isInt k v
 | none,.none=>true
 | none,_=>false
def qx:∀{k:KO} {v:Value},oK k v=true->(∃i t,k=some i/\v=Value.int i t)\/(k=none/\v=Value.none)
 | some i,v,h=>by
  let⟨t,e⟩:=Value.isInt_shape (k:=i) (v:=v) h;exact .inl ⟨i,t,rfl,e⟩
 | none,v,h=>by
  cases v<;>first | exact .inr ⟨rfl,rfl⟩ | cases h
noncomputable def NO:KO->Int
 | some k=>hashInt k
 | none=>4238894112
def GF{P:Program}{w:World}{A:Around}{E:Nz}{s:Shared}{Q:Int->Shared->Prop}(h:Q 4238894112 {s with toks:=s.toks+1}):wpAny (model P w) A (pyHash .none) Q E s:=by
 have T:s.TypeIs .none "NoneType":=rfl;have a:[Value.none].any Value.onHeap=false:=rfl;unfold pyHash;refine ud ?_;rw[cRoomFor,vc (by rw[a];exact vF)];refine uc ?_;refine ud (wpAny_specialOf T F.slot_NoneType_hash.lookup ?_);show wpAny _ _ (if(some (Value.builtin "NoneType.__hash__")==some Value.none)=true then _ else _) Q E s;rw[vc (by rw[beq_builtin_none];exact vF)];refine ud (wpAny_specialOf T F.slot_NoneType_hash.lookup ?_);refine ud (wpAny_callSpecialIfBoundUnlessNone?_slot T F.slot_NoneType_hash (wpAny_call_entry F.slot_NoneType_hash T F.entry_NoneType_hash ?_ (F.args_NoneType_hash_1 _)));show wpAny _ _ (retInt 4238894112) _ _ s;refine wpAny_ret_mkInt ?_;show wpAny _ _ (if(decide (-(2:Int)^63<=4238894112)&&decide ((4238894112:Int)<2^63))=true then _ else _) Q E _;rw[vd nofun];exact uc h
noncomputable def gv(P:Program)(w:World):KeyKind P w KO where
 is:=oK
 hash:=NO
 inj:=λv a b ha hb=>by
  rcases qx ha with⟨i,t,rfl,rfl⟩ | ⟨rfl,rfl⟩
  .rcases qx hb with⟨j,u,rfl,e⟩ | ⟨rfl,e⟩
   .injection e with e1 _;rw[e1]
   .exact nomatch e
  .rcases qx hb with⟨j,u,rfl,e⟩ | ⟨rfl,e⟩
   .exact nomatch e
   .rfl
 byValue:=λk v h=>by
  rcases qx h with⟨i,t,rfl,rfl⟩ | ⟨rfl,rfl⟩<;>rfl
 pyHash:=λhv h=>by
  rcases qx hv with⟨i,t,rfl,rfl⟩ | ⟨rfl,rfl⟩
  .exact wpAny_pyHash_int h
  .exact GF h
 eqBool:=λhu hv h=>by
  rcases qx hu with⟨i,t,rfl,rfl⟩ | ⟨rfl,rfl⟩
  .rcases qx hv with⟨j,u,rfl,rfl⟩ | ⟨rfl,rfl⟩
   .refine wpAny_eqBool_int ?_;rw[show(i==j)=decide ((some i:KO)=some j) by
     by_cases e:i=j
     .subst e;simp
     .rw[vH (λz=>e (vL z))];exact beq_eq_false_iff_ne.mpr e]
    exact h
   .rw[vH (λz=>nomatch z)]at h;exact SeqAt.EqAt.int_none i t _ _ _ _ h
  .rcases qx hv with⟨j,u,rfl,rfl⟩ | ⟨rfl,rfl⟩
   .rw[vH (λz=>nomatch z)]at h;exact SeqAt.EqAt.none_int j u _ _ _ _ h
   .rw[vG rfl]at h;exact SeqAt.EqAt.same _ _ _ _ _ h
 «strs»:=λk x t v h=>by
  rcases qx h with⟨i,u,rfl,e⟩ | ⟨rfl,e⟩<;>exact nomatch e
noncomputable def kO:KO->V
 | some i=>.int i
 | none=>.de
def NC{k:KO}{u:Value}(r:RelV (kO k) u):oK k u=true:=by
 cases k with
 | some i=>let⟨t,rfl⟩:=(show∃t,u=Value.int i t from r);simp[oK,Value.isInt]
 | none=>cases(show u=Value.none from r);rfl
theorem Cd{P:Program}{w:World}:∀{ks:List KO} {us:L9},Vals (ks.map kO) us->ItemsAre (gv P w) ks us
 | [],_,r=>by rw[map_nil]at r;cases r;exact .nil
 | k::ks,_,r=>by
  rw[uw]at r;cases r with
  | cons h t=>exact .cons (NC h) (Cd t)
def KAt(H:Hp)(b:Addr)(ks:List KO):Prop:=H b=some (.tup (ks.map kO))
def Bg{P:Program}{w:World}{H:Hp}{h:Heap}{b:Addr}{ks:List KO}(g:fy P w H h)(e:KAt H b ks):(tupleKind (gv P w)).is h ks b:=by
 let⟨j,a,r,o,c,d,n,f⟩:=(show cD P w H h b (.tup (ks.map kO))from g b _ e)
 exact⟨o,a.toArray,n,c,d,f,#v[Cd r]⟩
noncomputable abbrev OE:=List KO×Addr×V
def iD(xs:List OE)(ys:List (List KO×Addr×Value)):Prop:=Paired (λ(p:OE) (q:List KO×Addr×Value)=>p.1=q.1/\p.2.1=q.2.1/\RelV p.2.2 q.2.2) xs ys
noncomputable def nA(P:Program)(w:World)(a:Addr)(xs:List OE):HO:=.ext λh=>⇑xs<=sizeLine/\(a==sysModules)=false/\∃ys:List (List KO×Addr×Value),
 iD xs ys/\(ys.map (·.1)).Nodup/\∃es ep,fE h a es ep/\es.toList=ys.map (entryOfKey (tupleKind (gv P w)))
noncomputable def lA(xs:List OE)(k:List KO):Option OE:=xs.find? λp=>decide (p.1=k)
noncomputable def ig(xs:List OE)(k:List KO):V:=((lA xs k).map (·.2.2)).getD .de
noncomputable def iG(xs:List OE)(k:List KO)(b:Addr)(v:V):List OE:=if(lA xs k).isSome then xs.map λp=>if p.1=k then(p.1,p.2.1,v)else p else xs++[(k,b,v)]
theorem iD.length:∀{xs:List OE} {ys:List (List KO×Addr×Value)},iD xs ys->⇑xs=⇑ys
 | _,_,.nil=>rfl
 | _,_,.cons _ t=>by rw[vQ,vQ,iD.length t]
theorem iD.all{F:List KO->Addr->Prop}:∀{xs:List OE} {ys:List (List KO×Addr×Value)},iD xs ys->(∀p∈xs,F p.1 p.2.1)->∀q∈ys,F q.1 q.2.1
 | _,_,.nil,_=>λq b=>nomatch b
 | _,_,.cons (a:=x) r t,h=>λq b=>by
  rcases mem_cons.mp b with rfl | b
  .have:=h _ vq;rw[r.1,r.2.1]at this;exact this
  .exact iD.all t (λp c=>h p (vp _ c)) q b
theorem iD.si{k:List KO}:∀{xs:List OE} {ys:List (List KO×Addr×Value)},iD xs ys->RelV (ig xs k) (((atKey ys k).map (·.2)).getD .none)/\(lA xs k).isSome=(atKey ys k).isSome
 | _,_,.nil=>⟨rfl,rfl⟩
 | _,_,.cons (a:=x) (b:=y) (l₂:=m) (l₁:=l) r t=>by
  let⟨d,f⟩:=iD.si (k:=k) t;unfold ig lA atKey at *;by_cases e:x.1=k
  .have c:y.1=k:=r.1▸e;rw[List.find?_cons,List.find?_cons,vG e,vG c];exact⟨r.2.2,rfl⟩
  .have c:¬y.1=k:=r.1▸e;rw[List.find?_cons,List.find?_cons,vH e,vH c];exact⟨d,f⟩
theorem iD.mapped{k:List KO}{v:V}{u:Value}(c:RelV v u):∀{xs:List OE} {ys:List (List KO×Addr×Value)},iD xs ys->iD (xs.map λp=>if p.1=k then(p.1,p.2.1,v)else p) (ys.map (putAt k u))
 | _,_,.nil=>.nil
 | _,_,.cons (a:=x) (b:=y) r t=>by
  refine .cons ?_ (iD.mapped c t);unfold putAt;dsimp only;by_cases e:x.1=k
  .rw[vd e,vd (r.1▸e)];exact⟨r.1,r.2.1,c⟩
  .rw[vc e,vc (r.1▸e)];exact r
theorem iD.snoc{k:List KO}{b:Addr}{v:V}{u:Value}(a:RelV v u):∀{xs:List OE} {ys:List (List KO×Addr×Value)},iD xs ys->iD (xs++[(k,b,v)]) (ys++[(k,b,u)])
 | _,_,.nil=>.cons ⟨rfl,rfl,a⟩ .nil
 | _,_,.cons r t=>.cons r (iD.snoc a t)
def iD.put{k:List KO}{b:Addr}{v:V}{u:Value}{xs:List OE}{ys:List (List KO×Addr×Value)}(a:RelV v u)(p:iD xs ys):iD (iG xs k b v) (storedH ys k b u):=by
 unfold iG storedH;rw[(p.si (k:=k)).2];split
 .exact p.mapped a
 .exact p.snoc a
def CI{k:List KO}{b:Addr}{v:V}{xs:List OE}:⇑(iG xs k b v)<=⇑xs+1:=by
 unfold iG;split
 .rw[vt];lia
 .rw[vn];exact vb _
section
variable{P:Program}{w:World}{H:Hp}{h:Heap}{a:Addr}{xs:List OE}
def DY(z:⇑xs<=sizeLine)(c:(a==sysModules)=false){ys:List (List KO×Addr×Value)}(r:iD xs ys)(d:(ys.map (·.1)).Nodup){es:Array DictEntry}{ep:Nat}(b:fE h a es ep)(e:es.toList=ys.map (entryOfKey (tupleKind (gv P w)))):cD P w H h a (nA P w a xs):=by
 refine⟨⟨z,c,ys,r,d,es,ep,b,e⟩,let ⟨o,ho,_⟩:=b;⟨o,ho⟩,?_⟩;rintro f g ⟨z,c,ys,r,d,es,ep,b,e⟩ k;exact⟨z,c,ys,r,d,es,ep,b.at' k,e⟩
end
section
variable{X:Cx}
def rP(P:Program)(w:World):TE:=λj H Q=>∀p,H p=none->Q (.ref p) (upd H p (nA P w p []))
def HG{b:Pos}:PE X (.Dict [] [] b) (rP X.prog X.w):=λc s d H Q I h=>
 wpAny_Dict_empty ⟨.ref s.heap.objs.size,_,I.laid (a:=s.heap.objs.size) (o:=nA X.prog X.w s.heap.objs.size []) (t':=s.toks) (λj j q=>vJ _ q) (vb _)
  (DY (va _) (beq_eq_false_iff_ne.mpr (Ne.symm (vE I.big))) .nil nodup_nil (es:=#[]) (ep:=0) ⟨_,Heap.get?_push_size _ rfl,⟨rfl,rfl,rfl⟩,rfl⟩ rfl),rfl,h _ (I.cL.fresh (vb _))⟩
def hL(P:Program)(w:World)(H:Hp)(a:Addr)(xs:List OE):Prop:=H a=some (nA P w a xs)/\∀p∈xs,KAt H p.2.1 p.1
def Bc{d:Ny}{v:St}{H:Hp}{s:Shared}{a:Addr}{xs:List OE}(I:Inv X d v H s)(e:hL X.prog X.w H a xs):⇑xs<=sizeLine/\(a==sysModules)=false/\∃ys,iD xs ys/\s.heap.DictOfH (tupleKind (gv X.prog X.w)) a ys:=by
 let⟨e,f⟩:=e;let⟨z,l,ys,g,n,i,h,⟨o,r,j,c⟩,m⟩:=(show cD X.prog X.w H s.heap a (nA X.prog X.w a xs)from I.cL a _ e).1;exact⟨z,l,ys,g,o,i,h,r,j,c,m,λq u=>g.all (F:=λk b=>(tupleKind (gv X.prog X.w)).is s.heap k b) (λp t=>Bg I.cL (f p t)) q u,n⟩
def oi(P:Program)(w:World)(to ty:TE):TE:=λσ H Q=>to σ H λx H1=>∃a xs,x = .ref a/\hL P w H1 a xs/\ty σ H1 λy H2=>∃b k xs,y = .ref b/\hL P w H2 a xs/\KAt H2 b k/\Q (ig xs k) H2
def DJ{o e:Expr}{t v:TE}{c f:Pos}(L:X.A.units+1<cLine)(K:PE X o t)(J:PE X e v)(m:M1 X o "get" c e f):PE X (.Call (.Attribute o "get" c) [e] [] f) (oi X.prog X.w t v):=by
 intro g s w H Q I h;refine wpAny_Call_method m.base m.zy m.line u4 PySem.F.slot_dict_get PySem.F.type_dict_get (cN (K g s w H _ I h) λu W z_=>?_);obtain⟨x,z,p,T,a,Z,C,d,R⟩:=z_;subst C;obtain rfl:u=Value.ref a:=T;let⟨_,_,ys,_,r⟩:=Bc p d;refine⟨r.typeIs,λb q=>?_,?_⟩
 .cases q;let⟨O,_,_,E,F,_⟩:=r;exact⟨O,E,F.2.1⟩
 rw[m.trees];refine Calls.callWith_builtin rfl (Calls.evalArgs_plain (Calls.spliced_cons (cN (J g W w z _ p R) λM Y z_=>?_)));let⟨y,A,j,U,b,k,l,D,B,N,S⟩:=z_;refine Calls.spliced_nil ?_;subst D;cases(show M=Value.ref b from U);let⟨_,G,n,P,i⟩:=Bc j B;refine call_meetsIn PySem.F.slot_dict_get i.typeIs PySem.F.entry_dict_get (PySem.F.args_dict_get_2 _ _) (meetsH_dict_get (tupleKind (gv X.prog X.w)) a b G) ⟨tupleKind_room_in1 L,k,n,Bg j.cL N,i,⟨ig l k,A,j.tok _,?_,S⟩⟩;exact(P.si (k:=k)).1
def HH{P:Program}{w:World}(f:X.prog=P)(g:X.w=w){o e:Expr}{c d:TE}{a b:Pos}(j:X.A.units+1<cLine)(i:PE X o c)(h:PE X e d)(m:M1 X o "get" a e b):PE X (.Call (.Attribute o "get" a) [e] [] b) (oi P w c d):=by
 subst f g;exact DJ j i h m
def DO{P:Program}{w:World}{d e:TE}{c:St}{H:Hp}{Q:VK}(h:d c H λx H1=>∃a xs,x = .ref a/\hL P w H1 a xs/\e c H1 λy H2=>∃b k xs,y = .ref b/\hL P w H2 a xs/\KAt H2 b k/\Q (ig xs k) H2):oi P w d e c H Q:=h
def MH(y:X.A.units+1<cLine):rk X (λo i v H Q=>∃a b k xs,o = .ref a/\i = .ref b/\hL X.prog X.w H a xs/\KAt H b k/\⇑xs<sizeLine/\Q (upd H a (nA X.prog X.w a (iG xs k b v)))):=by
 intro g s M H o i v ov L u Q I D C E h;let⟨a,b,k,xs,rfl,rfl,d,B,l,q⟩:=h;cases D;cases C;let⟨z,w,F,j,m⟩:=Bc I d;have A:⇑F<=sizeLine:=by rw[<-⇑j];exact z
 refine wpAny_setItem_heap (hsz:=A) (tupleKind_room_in1 y) (Bg I.cL B) m λK c x=>⟨_,?_,q⟩
 let⟨f,J,G,e,n,p,r,Z,t⟩:=c;have:=CI (xs:=xs) (k:=k) (b:=b) (v:=v);exact Y1 I (by rw[d.1];exact True.intro) x ⟨f,e⟩ (DY ⋯ w (j.put E) t ⟨f,e,n,p⟩ r)
mutual
theorem DV.mS{H:Hp}{d:Addr}{o:HO}(n:(∀ys,H d≠some (.lst ys))/\∀ys,H d≠some (.tup ys)):∀{v:V} {D:PyData},DV H v D->DV (upd H d o) v D
 | _,_,.de=>.de
 | _,_,.bl b=>.bl b
 | _,_,.int i=>.int i
 | _,_,.str x=>.str x
 | _,_,.lst e r=>.lst ((jg (λz=>n.1 _ (z▸e))).trans e) (fW.mS n r)
 | _,_,.tup e r=>.tup ((jg (λz=>n.2 _ (z▸e))).trans e) (fW.mS n r)
theorem fW.mS{H:Hp}{d:Addr}{o:HO}(n:(∀ys,H d≠some (.lst ys))/\∀ys,H d≠some (.tup ys)):∀{vs:N2} {ds:List PyData},fW H vs ds->fW (upd H d o) vs ds
 | _,_,.nil=>.nil
 | _,_,.cons a r=>.cons (DV.mS n a) (fW.mS n r)
end
def Cb{xs:List OE}{k a:List KO}{b:Addr}{v:V}:ig (iG xs k b v) a=if a=k then v else ig xs a:=by
 unfold iG;by_cases z:(lA xs k).isSome=true
 .rw[vd z];unfold ig lA at *;have e:∀l:List OE,((l.map λp=>if p.1=k then(p.1,p.2.1,v)else p).find? λp=>decide (p.1=a))=(l.find? λp=>decide (p.1=a)).map λp=>if p.1=k then(p.1,p.2.1,v)else p:=λl=>by
   induction l with
   | nil=>rfl
   | cons x r ih=>
    have d:(if x.1=k then(x.1,x.2.1,v)else x).1=x.1:=by split<;>rfl
    rw[uw,List.find?_cons,List.find?_cons,d,ih];by_cases c:x.1=a
    .rw[vG c];rfl
    .rw[vH c]
  rw[e,Option.map_map];by_cases c:a=k
  .subst c;rw[vd rfl];cases f:xs.find? λp=>decide (p.1=a)with
   | none=>rw[f]at z;cases z
   | some p=>
    have this:=List.find?_some f;have this:=of_decide_eq_true this;show(if p.1=a then(p.1,p.2.1,v)else p).2.2=v;rw[vd this]
  .rw[vc c];cases f:xs.find? λp=>decide (p.1=a)with
   | none=>rfl
   | some p=>
    have this:=List.find?_some f;have this:=of_decide_eq_true this;show(if p.1=k then(p.1,p.2.1,v)else p).2.2=p.2.2;rw[vc (λz=>c (this.symm.trans z))]
 .rw[vc z];have g:lA xs k=none:=by cases f:lA xs k with | none=>rfl | some p=>rw[f]at z;exact ub rfl z
  unfold ig lA at *;rw[List.find?_append];by_cases c:a=k
  .subst c;rw[g,vd rfl,Option.none_or,List.find?_cons,vG rfl];rfl
  .rw[vc c,List.find?_cons,vH (λz=>c z.symm),List.find?_nil,Option.or_none]
def Ih{H H':Hp}{xs:List OE}{k:List KO}{b:Addr}{v:V}(h:∀p∈xs,KAt H p.2.1 p.1)(d:KAt H b k)(t:∀c ys,H c=some (.tup ys)->H' c=some (.tup ys)):∀p∈iG xs k b v,KAt H' p.2.1 p.1:=λp a=>by
 unfold iG at a;split at a
 .let⟨q,e,rfl⟩:=vK.mp a;have:=t _ _ (h q e);split<;>exact this
 .rcases vh.mp a with z | z
  .exact t _ _ (h p z)
  .rw[vo.mp z];exact t _ _ d
end
open PySem PySem.Spec PySem.W PyProof.Rows HT
section
variable{prog:Program}{w:World}{A:Around}{E:Nz}{s:Shared}
def Kl{t e:Addr}{items:Array Value}{g i:Value}{lo hi:Nu}{Q:Nz}(a:IsTup s.heap t items)(f:s.heap.IsSliceOf e g i .none)(pl:IsPart g lo)(n:IsPart i hi)
  (j:du items.size 0 lo=0) (k:du items.size items.size hi=items.size) (h:Q (.ref t) s):wpAny (model prog w) A (getItem (.ref t) (.ref e)) Q E s:=by
 let⟨m,d,c,l⟩:=id f;have b:s.TypeIs (.ref e) "slice":=⟨m,d,c⟩
 unfold getItem
 try with_reducible refine wpAny_holding ?_
 first | refine ud (uc ?_) | skip
 refine ud (wpAny_sequenceKey a.typeIs nofun ?_);refine ud (wpAny_callSpecial?_slot (name:=Str.ofString "__getitem__") a.typeIs PyProof.Rows.slot_tuple_getitem (wpAny_call_entry PyProof.Rows.slot_tuple_getitem a.typeIs entry_tuple_getitem ?_ (args_tuple_getitem _ _)));show wpAny _ _ (Builtin.Tuple.tupleItemsOf (.ref t) >>= _) _ _ s;refine ud (tupleItemsOf_ a ?_);refine ud (wpAny_typeOf b ?_);rw[vd nofun];refine ud (yv f pl n ?_);show wpAny _ _ (if(((du items.size 0 lo:Nat):Int)==0&&(1:Int)==1&&(du items.size items.size hi-du items.size 0 lo)==items.size)=true then _ else _) _ _ s;rw[vd (by rw[j,k];simp)];unfold Builtin.Tuple.tupleIsExact;refine ud (ud (wpAny_typeOf a.typeIs (uc ?_)));rw[vd nofun]
 first
  | exact ud (wpAny_rule (uc ⟨_,rfl,uc h⟩))
  | exact ud (wpAny_rule (ud (uc (uc ⟨_,rfl,uc h⟩))))
end
section
variable{X:Cx}
noncomputable def BD(K:cG):V->Option Int->Option Int->Hp->VK->Prop:=λx lo hi H Q=>∃a xs,x = .ref a/\cJ K H a xs/\HT.du ⇑xs 0 lo=0/\HT.du ⇑xs ⇑xs hi=⇑xs/\Q (.ref a) H
def MI:r8 X (BD X.K):=by
 intro e s z H x v w y t o u Q I m i k l h;let⟨a,n,rfl,j,f,g,q⟩:=h;cases m;let⟨c,r,d,p⟩:=I.tuple j;have b:c.toArray.size=⇑n:=by rw[size_toArray];exact r.length.symm
 refine⟨"tuple",_,PyProof.Rows.slot_tuple_getitem.lookup,d.typeIs,?_⟩;exact Kl d i k l (by rw[b];exact f) (by rw[b];exact g) ⟨.ref a,H,I,rfl,q⟩
def tI:R2:=λx y H Q=>∃a b xs ys,x = .ref a/\y = .ref b/\H a=some (.tup xs)/\H b=some (.tup ys)/\⇑xs+⇑ys<=sizeLine/\∀(r:Addr) (H':Hp),cj H H'->H' r=some (.tup (xs++ys))->Q (.ref r) H'
def Kx:gn X (binaryOp .Add) tI:=by
 intro k s W H x y v u Q I E F h;let⟨a,b,G,U,rfl,rfl,o,r,N,q⟩:=h;by_cases e:G=[]
 .subst e;cases E;cases F;let⟨i,S,P,Z⟩:=I.tuple (cJ.of o);let⟨j,Y,R,Z⟩:=I.tuple (cJ.of r);let⟨⟨J,K,A,T⟩,D,B,n,C⟩:=id P;let⟨⟨w,m,l,t⟩,g,d,O,f⟩:=id R;simp only at B C d f;subst B C d f;have L:i=[]:=S.ir.mpr rfl;exact concat_meets ⟨_,D,rfl⟩ ⟨_,g,rfl⟩ noFill_tuple_add seq_tuple_add PySem.F.slot_tuple_add PySem.F.entry_tuple_add (PySem.F.args_tuple_add_2 _ _)
   (tuple_addW0 a b i.toArray j.toArray n O K m T t (by simp[L])) ⟨D,g,⟨.ref b,H,I,rfl,q b H (λZ Z h=>h) r⟩⟩
 .exact DF k s W H _ _ v u Q I E F ⟨a,b,G,U,rfl,rfl,cJ.of o,cJ.of r,e,N,λz=>q a H (λZ Z h=>h) (by rw[z,append_nil];exact o),λZ p M=>q p _ (λc u h=>(jg (je h M)).trans h) jA⟩
noncomputable def Bz:V->Option Int->Option Int->Hp->VK->Prop:=λx lo hi H Q=>∃a xs,x = .ref a/\H a=some (.tup xs)/\∀(r:Addr) (H':Hp),cj H H'->H' r=some (.tup (fF xs lo hi))->Q (.ref r) H'
def KE:r8 X Bz:=by
 intro b s t H x v o r i g n Q I m j k l h;let⟨a,d,rfl,f,q⟩:=h;by_cases e:HT.du ⇑d 0 i=0/\HT.du ⇑d ⇑d g=⇑d
 .refine MI b s t H _ v o r i g n Q I m j k l ⟨a,d,rfl,cJ.of f,e.1,e.2,q a H (λZ Z h=>h) ?_⟩;unfold fF;rw[e.1,e.2,List.drop_zero,Nat.sub_zero,v8];exact f
 .exact AQ b s t H _ v o r i g n Q I m j k l ⟨a,d,rfl,cJ.of f,e,λp w=>q p _ (λc u h=>(jg (je h w)).trans h) jA⟩
def CW{xs:N2}{k:Nat}(h:k<=⇑xs):fF xs none (some (k:Int))=xs.take k:=by
 unfold fF;rw[HT.CP,HT.Dc,List.drop_zero,Nat.sub_zero,Nat.min_eq_left h]
def K7{xs:N2}{k:Nat}(h:k<=⇑xs):fF xs (some (k:Int)) none=xs.drop k:=by
 unfold fF;rw[HT.CP,HT.Dc,Nat.min_eq_left h];exact take_of_length_le (by rw[length_drop];lia)
end
open PySem PySem.Spec PyProof.Rows
def cD.has{P:Program}{w:World}{H:Hp}{h:Heap}{a:Addr}{o:HO}(x:cD P w H h a o):∃b,h.get? a=some b:=by
 cases o with
 | lst xs=>let⟨j,j,j,j,e⟩:=x;exact⟨_,e⟩
 | tup xs=>let⟨j,j,j,j,e,j⟩:=x;exact⟨_,e⟩
 | dK kvs=>let⟨j,j,j,j,o,j,j,e,j⟩:=x;exact⟨_,e⟩
 | dT kvs=>let⟨j,j,j,j,o,j,j,e,j⟩:=x;exact⟨_,e⟩
 | set S n=>let⟨o,j,j,j,e,j⟩:=x;exact⟨_,e⟩
 | ins C dx fs=>let⟨j,j,j,e,j⟩:=x;exact⟨_,e⟩
 | own y=>exact x
 | xd fs=>let⟨j,⟨j,j,j,e,j⟩,j⟩:=x;exact⟨_,e⟩
 | tM lo hi=>let⟨j,j,j,e⟩:=x;exact⟨_,e⟩
 | lZ b u=>let⟨e,j⟩:=x;exact⟨_,e⟩
 | oX ps=>exact⟨_,show h.get? a=some _ from x⟩
 | met f y=>exact⟨_,show h.get? a=some _ from x⟩
 | ext φ=>let⟨j,e,j⟩:=x;exact e
def oq(B:Heap)(l:Nr)(a:Addr)(cls:Value)(h:Heap):Prop:=
  B.StaysIn h/\B.get? a=none/\h.FunFrames B l/\
    ((∃a0,h.TracedW B a cls a0)\/(∃oe vs a0,h.get? a=some oe/\oe.cls=cls/\oe.data = .fields vs/\vs[1]?=some .none/\vs[0]?=some a0)\/
     ∃env r L a0,l=env::r/\env.frame=some L/\h.TracedAtW B a cls a0 (rawInt L))
section
variable{M:Model}{A:Around}{E:Nz}{s:Shared}{B:Heap}{env:Env}{outer:Nr}{L a:Addr}{cls:Value}{Q:Unit->Shared->Prop}
def E3(b:A.frames=some (env::outer))(m:env.frame=some L)(x:oq B (env::outer) a cls s.heap)
  (h:∀h',oq B outer a cls h'->s.heap.UpToSlots h'->Q () {s with heap:=h'}):wpAny M A (leaving env (.ref a)) Q E s:=by
 obtain⟨j,c,k,⟨a0,t⟩ | ⟨y,z,a0,v,rfl,q,p,o⟩ | ⟨l,r,w,a0,n,i,t⟩⟩:=x
 .exact wpAny_leaving_nextW b k m t j c λh' ⟨d,⟨_,_,e⟩,f,g⟩=>h h' ⟨d,c,e,.inl ⟨a0,f⟩⟩ g
 .exact wpAny_leaving_firstW (a0:=a0) b k m v j c q p o λh' ⟨d,⟨_,_,e⟩,f,g⟩=>h h' ⟨d,c,e,.inl ⟨a0,f⟩⟩ g
 .cases n;unfold leaving;refine ud (wpAny_noteFrame_againW i t (wpAny_landsW ⟨j,c,k,t⟩ λh' ⟨d,e,⟨_,_,f⟩,g⟩ u=>h h' ⟨d,e,f,.inl ⟨a0,g⟩⟩ u))
def Gs(d:A.frames=some (env::outer))(i:env.frame=some L)(x:oq B (env::outer) a cls s.heap)
  (h:∀h' a0,Heap.FlyingW B (env::outer) a cls a0 h'->s.heap.UpToSlots h'->Q () {s with heap:=h'}) :
  wpAny M A (noteFrame (.ref a) env) (λZ e=>wpAny M A (setFlight (.ref a) none) Q E e) E s:=by
 obtain⟨k,g,l,⟨a0,t⟩ | ⟨H,I,a0,p,rfl,o,n,u⟩ | ⟨m,r,G,a0,q,j,t⟩⟩:=x
 .exact wpAny_looks_onW d i ⟨k,g,l,t⟩ λv w y=>wpAny_landsW w λc b f=>h c a0 b (y.trans f)
 .unfold noteFrame;simp only[i];refine ud (wpAny_field p o n ?_);rw[vc nofun];refine wpAny_entryW d l i p k g o (Array.getElem?_eq_some_iff.mp n).1 u λv ⟨z,C,D,F⟩=>?_
  exact wpAny_landsW ⟨z,g,C,D⟩ λc b f=>h c a0 b (Heap.UpToSlots.trans F f)
 .cases q;exact wpAny_noteFrame_againW j t (wpAny_landsW ⟨k,g,l,t⟩ λc b f=>h c a0 b f)
def Gu(c:A.frames=some (env::outer))(d:env.frame=some L)(x:oq B (env::outer) a cls s.heap)
  (g:∀h' a0,Heap.HeldW B (env::outer) a cls a0 L h'->s.heap.UpToSlots h'->Q () {s with heap:=h'}):wpAny M A (noteFrame (.ref a) env) Q E s:=by
 obtain⟨h,e,i,⟨a0,t⟩ | ⟨C,D,a0,m,rfl,l,k,p⟩ | ⟨j,r,n,a0,o,b,t⟩⟩:=x
 .exact wpAny_looks_onW c d ⟨h,e,i,t⟩ λf q u=>g f a0 q u
 .unfold noteFrame;simp only[d];refine ud (wpAny_field m l k ?_);rw[vc nofun];exact wpAny_entryW c i d m h e l (Array.getElem?_eq_some_iff.mp k).1 p λf ⟨v,w,y,z⟩=>g f a0 ⟨v,e,w,y⟩ z
 .cases o;obtain rfl:L=n:=vL (d.symm.trans b);exact wpAny_noteFrame_againW b t (g _ a0 ⟨h,e,i,t⟩ (.refl _))
def FZ{a0:Value}(x:Heap.HeldW B (env::outer) a cls a0 L s.heap)(D:env.frame=some L)
  (C:∀h',Heap.HeldW B (env::outer) a cls a0 L h'->s.heap.UpToSlots h'->Q () {s with heap:=h'}) :
  wpAny M A (do
   if(<-field (.ref a) 1) == .none then unsupported "frame.own-activation:exception-without-traceback"
   setFlight (.ref a) env.frame) Q E s:=by
 let⟨v,u,F,G,w,T,H,y,t,l,r,n,m,k,p,h,z⟩:=x;have i:3<y.size:=(Array.getElem?_eq_some_iff.mp z).1;have d:∀b,b≠T->(s.heap.update T (Obj.mapFields (·.setIfInBounds 3 ((some L).elim Value.none λf=>rawInt f)))).get? b=s.heap.get? b:=
  λb e=>Heap.get?_update_other _ _ (Ne.symm e)
 have c:∀b o,s.heap.get? b=some o->(∀w,o.data≠.fields w)->b≠T:=λb o e g q=>by
  rw[q,p]at e;injection e with e;subst e;exact g y h
 rw[D];refine ud (wpAny_field t r n ?_);rw[vc (show¬((Value.ref T==Value.none)=true)from by simp)];unfold setFlight;refine ud (wpAny_field t r n ?_);rw[vd (show(Value.ref T != Value.none)=true from by simp)];refine wpAny_setField p h i (C _ ⟨λb o j=>(d b λq=>by rw[q,m]at j;cases j).trans (v b o j),u,
  F.of_keeps λb o e g=>⟨o,(d b (c b o e g)).trans e,rfl⟩,?_⟩ λb o e g=>⟨o.slots,(d b (c b o e g)).trans e⟩)
 exact⟨G,w,T,_,_,(d a (Ne.symm k)).trans t,l,r,n,m,k,Heap.get?_update_self _ p (Obj.isFreed_of_fields (Obj.data_mapFields h _)),Obj.data_mapFields h _,by simp[i]⟩
end
noncomputable def fCt(o:Obj):Option Addr:=match o.data with | .fields vs=>if vs[2]?=some .none then none else some 0 | _=>none
def DS(h h':Heap):Prop:=∀b o,h.get? b=some o->∃o',h'.get? b=some o'/\o'.cls=o.cls/\fCt o'=fCt o
def DS.refl(h:Heap):DS h h:=λj o e=>⟨o,e,rfl,rfl⟩
def DS.trans{a c d:Heap}(x:DS a c)(y:DS c d):DS a d:=λb o e=>
 let ⟨o1,e1,c1,d1⟩:=x b o e;let ⟨o2,e2,c2,d2⟩:=y b o1 e1;⟨o2,e2,c2.trans c1,d2.trans d1⟩
def Kf(f:Obj->Obj):Prop:=∀o,(f o).cls=o.cls/\fCt (f o)=fCt o/\(o.isFreed=false->(f o).isFreed=false)
def DS.upd{h:Heap}{a:Addr}{f:Obj->Obj}(k:Kf f):DS h (h.update a f):=λb o e=>by
 by_cases z:b=a
 .subst z;exact⟨f o,Heap.get?_update_self _ e ((k o).2.2 (Heap.get?_some_iff.mp e).2),(k o).1,(k o).2.1⟩
 .exact⟨o,(Heap.get?_update_ne _ _ _ _ z).trans e,rfl,rfl⟩
def DS.push{h:Heap}{o:Obj}:DS h (h.push o):=λb a e=>⟨a,vJ _ e,rfl,rfl⟩
inductive DK{α:Type}:Sem α->Prop
 | pure (a:α):DK (.pure a)
 | raise (e:Value):DK (.raise e)
 | unsupported (w:String):DK (.unsupported w)
 | finish (e:Ending):DK (.finish e)
 | rule {t:String} {k:Unit->Sem α} (h:∀u,DK (k u)):DK (.rule t k)
 | at {p:Pos} {k:Unit->Sem α} (h:∀u,DK (k u)):DK (.at p k)
 | load {a:Addr} {pt:Nv} {k:Obj->Sem α} (h:∀o,DK (k o)):DK (.load a pt k)
 | update {a:Addr} {pt:Nv} {f:Obj->Obj} {k:Unit->Sem α} (kf:Kf f) (h:∀u,DK (k u)):DK (.update a pt f k)
 | alloc {o:Obj} {k:Addr->Sem α} (h:∀a,DK (k a)):DK (.alloc o k)
 | alive {a:Addr} {k:Option Obj->Sem α} (h:∀o,DK (k o)):DK (.loadIfAlive a k)
 | point {l:L9} {k:Unit->Sem α} (h:∀u,DK (k u)):DK (.point l k)
 | ask {k:Setting->Sem α} (h:∀u,DK (k u)):DK (.ask k)
 | stack {k:List (Code×Pos)->Sem α} (h:∀u,DK (k u)):DK (.stack k)
 | fresh {k:Tok->Sem α} (h:∀u,DK (k u)):DK (.fresh k)
 | handled {b:Bool} {k:Option Value->Sem α} (h:∀u,DK (k u)):DK (.handled b k)
def oo{g:Type}{M:Model}{c:PySem.Ctx}{t:Sem g}{Q f:g->Pos->Shared->Prop}{E d:Value->Pos->Shared->Prop}{p:Pos}{s:Shared}(h:Sem.wp M c t Q E p s)(q:∀a b s',Q a b s'->f a b s')(e:∀a b s',E a b s'->d a b s'):Sem.wp M c t f d p s:=Sem.wp_mono M c t q e p s h
def NH{f:Type}{M:Model}{c:PySem.Ctx}{t:Sem f}(d:DK t):∀{Q:f->Pos->Shared->Prop} {E:Value->Pos->Shared->Prop} {p:Pos} {s:Shared},Sem.wp M c t Q E p s->
  Sem.wp M c t (λa b s'=>Q a b s'/\DS s.heap s'.heap) (λa b s'=>E a b s'/\DS s.heap s'.heap) p s:=by
 induction d with
 | pure a=>intro Q E p s h;rw[Sem.wp]at h|-;exact⟨h,.refl _⟩
 | raise a=>intro Q E p s h;rw[Sem.wp]at h|-;exact⟨h,.refl _⟩
 | unsupported=>intro Q E p s h;rw[Sem.wp]at h;exact h.elim
 | finish=>intro Q E p s h;rw[Sem.wp]at h;exact h.elim
 | rule _ ih=>intro Q E p s h;rw[Sem.wp]at h|-;exact ih _ h
 | «at» _ ih=>intro Q E p s h;rw[Sem.wp]at h|-;exact ih _ h
 | load _ ih=>intro Q E p s h;rw[Sem.wp]at h|-;let⟨o,e,h⟩:=h;exact⟨o,e,ih _ h⟩
 | update kf _ ih=>
  intro Q E p s h;rw[Sem.wp]at h|-;refine⟨h.1,oo (ih _ h.2) (λa b s' z=>⟨z.1,(DS.upd kf).trans z.2⟩) λa b s' z=>⟨z.1,(DS.upd kf).trans z.2⟩⟩
 | alloc _ ih=>
  intro Q E p s h;rw[Sem.wp]at h|-;exact oo (ih _ h) (λa b s' z=>⟨z.1,DS.push.trans z.2⟩) λa b s' z=>⟨z.1,DS.push.trans z.2⟩
 | alive _ ih=>intro Q E p s h;rw[Sem.wp]at h|-;exact ih _ h
 | point _ ih=>intro Q E p s h;rw[Sem.wp]at h|-;exact ih _ h
 | ask _ ih=>intro Q E p s h;rw[Sem.wp]at h|-;exact ih _ h
 | stack _ ih=>intro Q E p s h;rw[Sem.wp]at h|-;exact ih _ h
 | fresh _ ih=>intro Q E p s h;rw[Sem.wp]at h|-;exact ih _ h
 | handled _ ih=>intro Q E p s h;rw[Sem.wp]at h|-;exact ih _ h
def yw{b:Type}{M:Model}{A:Around}{t:Sem b}(d:DK t){Q:b->Shared->Prop}{E:Nz}{s:Shared}(h:wpAny M A t Q E s):wpAny M A t (λa s'=>Q a s'/\DS s.heap s'.heap) (λe s'=>E e s'/\DS s.heap s'.heap) s:=
 λc p z=>NH d (h c p z)
def DK.bind{b c:Type}{t:Sem b}{f:b->Sem c}(d:DK t)(h:∀a,DK (f a)):DK (t >>= f):=by
 show DK (Sem.bind t f)
 induction d with
 | pure a=>exact h a
 | raise=>exact .raise _
 | unsupported=>exact .unsupported _
 | finish=>exact .finish _
 | rule _ ih=>exact .rule ih
 | «at» _ ih=>exact .at ih
 | load _ ih=>exact .load ih
 | update kf _ ih=>exact .update kf ih
 | alloc _ ih=>exact .alloc ih
 | alive _ ih=>exact .alive ih
 | point _ ih=>exact .point ih
 | ask _ ih=>exact .ask ih
 | stack _ ih=>exact .stack ih
 | fresh _ ih=>exact .fresh ih
 | handled _ ih=>exact .handled ih
def Na{i:Nat}{v:Value}(hi:i≠2):Kf (Obj.mapFields (·.setIfInBounds i v)):=λo=>by
 let⟨c,d,a,b⟩:=o;cases a<;>first | exact⟨rfl,rfl,λh=>h⟩ | (refine⟨rfl,?_,λh=>h⟩;unfold fCt Obj.mapFields;dsimp only;rw[Array.getElem?_setIfInBounds_ne hi])
def YC(v:Value):DK (fieldsOf v):=by
 unfold fieldsOf;split
 .refine DK.bind (.load λo=>.pure _) λo=>?_
  split
  .exact .pure _
  .exact .unsupported _
 .exact .unsupported _
def yd(v:Value)(i:Nat):DK (field v i):=by
 unfold field;refine DK.bind (YC v) λa=>?_
 split
 .exact .pure _
 .exact .unsupported _
def WO(a:Addr){i:Nat}(hi:i≠2)(v:Value):DK (updateField a i v):=by
 unfold updateField
 repeat (first | exact DK.pure _ | exact DK.unsupported _ | exact DK.raise _ | exact YC _ | exact yd _ _ | (refine DK.update (Na hi) λj=>?_) | (refine DK.load λj=>?_) | (refine DK.stack λj=>?_) | (refine DK.alloc λj=>?_) | (refine DK.rule λj=>?_) | (refine DK.point λj=>?_) | (refine DK.bind ?_ λj=>?_) | split | assumption)
def YD(v:Value)(i:Nat)(x:Value)(hi:i≠2:=by decide):DK (setField v i x):=by
 unfold setField;split
 .exact WO _ hi _
 .exact .unsupported _
def QX(e:Value)(f:Option Addr):DK (setFlight e f):=by
 unfold setFlight;refine DK.bind (yd _ _) λj=>?_
 split
 .exact YD _ _ _
 .exact .pure _
def GB(env:Env)(l:Nr):DK (behindIsImport env l):=by
 unfold behindIsImport
 repeat (first | exact DK.pure _ | exact DK.unsupported _ | exact DK.raise _ | exact YC _ | exact yd _ _ | (refine DK.load λj=>?_) | (refine DK.stack λj=>?_) | (refine DK.alloc λj=>?_) | (refine DK.rule λj=>?_) | (refine DK.point λj=>?_) | (refine DK.bind ?_ λj=>?_) | split | assumption)
def GX:DK underTheClaimsCaller:=.stack λj=>.pure _
def E5(env:Env)(i:Bool)(l:Nr):DK (keptBack env i l):=by
 unfold keptBack;split
 .split
  .exact .pure _
  .exact .bind GX λj=>.pure _
 .exact .pure _
theorem B3:∀l:Nr,DK (readyFrames l)
 | []=>.pure _
 | env::outer=>by
  unfold readyFrames;split
  .refine DK.bind (.load λo=>.pure _) λo=>?_
   split
   .exact .pure _
   .refine DK.bind (GB _ _) λj=>DK.bind (E5 _ _ _) λj=>DK.bind (.update (λo=>⟨rfl,rfl,λh=>by let⟨c,d,a,b⟩:=o;cases a<;>exact h⟩) λj=>.pure _) λj=>B3 outer
  .exact .unsupported _
def WM:∀l:Nr,DK (frameObject l)
 | []=>.pure _
 | env::outer=>.bind (B3 _) λj=>.pure _
def FX(env:Env):DK (PySem.frameOf env):=by
 unfold PySem.frameOf;refine DK.bind (.stack λj=>.pure _) λj=>DK.bind (WM _) λa=>?_
 split
 .exact .pure _
 .exact .unsupported _
def GW(f:Addr)(b:Bool):DK (entryPlaceOf f b):=by
 unfold entryPlaceOf;refine DK.bind (.stack λj=>.pure _) λj=>?_
 split<;>exact .pure _
def E6(a b c d e:Value)(pl:L9):DK (EntryCells.newEntry a b c d e pl):=by
 unfold EntryCells.newEntry newFields newObj;dsimp only;have f:∀g:Data,DK (newObjAsIs (.type "traceback") g):=λg=>DK.bind (.alloc λj=>.pure _) λj=>.pure _
 split<;>split<;>first | exact f _ | exact DK.bind (.unsupported _) λj=>f _
def X9(e:Value)(env:Env):DK (noteFrame e env):=by
 unfold noteFrame;split
 .refine DK.bind (yd _ _) λb=>?_
  have a:∀(f:Addr),DK (do setField e 1 (<-EntryCells.newEntry b (<-frameOf env) .none (rawInt f) .none (<-entryPlaceOf f (b != .none)))):=λf=>
   DK.bind (FX _) λj=>DK.bind (GW _ _) λj=>DK.bind (E6 _ _ _ _ _ _) λj=>YD _ _ _
  split
  .refine DK.bind (yd _ _) λj=>?_
   split
   .exact .pure _
   .exact DK.bind (YD _ _ _) λj=>a _
  .exact a _
 .exact .unsupported _
def FY(env:Env)(e:Value):DK (leaving env e):=.bind (X9 _ _) λj=>QX _ _
def XV{M:Model}{A:Around}{E:Nz}{s:Shared}{B:Heap}{env:Env}{b:Nr}{L a:Addr}{cls:Value}{Q:Unit->Shared->Prop}(d:A.frames=some (env::b))(g:env.frame=some L)(x:oq B (env::b) a cls s.heap)
  (f:∀h',oq B b a cls h'->s.heap.UpToSlots h'->DS s.heap h'->Q () {s with heap:=h'}):wpAny M A (leaving env (.ref a)) Q E s:=by
 refine wpAny_mono (yw (FY env (.ref a)) (E3 (E:=E) (Q:=λu c=>oq B b a cls c.heap/\s.heap.UpToSlots c.heap/\c={s with heap:=c.heap}) d g x λh' e u=>⟨e,u,rfl⟩)) (λu c z=>?_) λZ Z z=>z.1
 let⟨⟨h,i,j⟩,k⟩:=z;rw[j];exact f _ h i k
def WB{M:Model}{A:Around}{E:Nz}{s:Shared}{B:Heap}{env:Env}{b:Nr}{L a:Addr}{cls:Value}{Q:Unit->Shared->Prop}(e:A.frames=some (env::b))(i:env.frame=some L)(x:oq B (env::b) a cls s.heap)
  (h:∀h' a0,Heap.FlyingW B (env::b) a cls a0 h'->s.heap.UpToSlots h'->DS s.heap h'->Q () {s with heap:=h'}) :
  wpAny M A (noteFrame (.ref a) env) (λZ d=>wpAny M A (setFlight (.ref a) none) Q E d) E s:=by
 have g:=yw (X9 (.ref a) env) (Gs (M:=M) (E:=E) (Q:=λu c=>(∃a0,Heap.FlyingW B (env::b) a cls a0 c.heap)/\s.heap.UpToSlots c.heap/\c={s with heap:=c.heap}) e i x λh' a0 f u=>⟨⟨a0,f⟩,u,rfl⟩);refine wpAny_mono g (λu c z=>?_) λZ Z z=>z.1
 refine wpAny_mono (yw (QX _ _) z.1) (λo n y=>?_) λZ Z y=>y.1
 let⟨⟨⟨a0,j⟩,k,l⟩,m⟩:=y;rw[l];exact h _ a0 j k (z.2.trans m)
noncomputable def iq(P:Program)(w:World):m6:=λouter H s E e s'=>∃a cls H' B dd,e = .ref a/\s.heap.get? a=none/\s'.os=s.os/\AllBare s'.gens/\
 Un (fz outer) [] H H' s.heap s'.heap/\fy P w H' s'.heap/\H' a=none/\oq B outer a cls s'.heap/\
 (∀b o,s'.heap.get? b=some o->(H' b≠none\/∃o0,s.heap.get? b=some o0)->b∉fz outer->B.get? b=some o)/\(∃oe,s'.heap.get? a=some oe/\fCt oe=dd)/\E cls dd H'
def XP(X:Cx)(pins:Ny)(σ:St)(E:XK)(e:Value)(s':Shared):Prop:=
 ∃a cls H' B dd,e = .ref a/\X.s₀.heap.get? a=none/\Inv X pins σ H' s'/\H' a=none/\oq B X.stack a cls s'.heap/\
  (∀b o,s'.heap.get? b=some o->(H' b≠none\/(∃o0,X.s₀.heap.get? b=some o0)\/∃p∈X.pn++pins,p.1=b)->b∉fz X.stack->B.get? b=some o)/\(∃oe,s'.heap.get? a=some oe/\fCt oe=dd)/\E cls dd H'
structure Flat(X:Cx):Prop where
 ex:X.ex=[]
 md:X.stack=X.env::X.outer
 fr:X.env.frame=some X.env.locals
 calm:X.calm=true
section
variable{X:Cx}{pins:Ny}{σ:St}{H:Hp}{s s':Shared}{E:XK}{e:Value}
def Flat.fs(F:Flat X):fz X.stack=X.env.locals::X.fs:=by
 rw[F.md];unfold fz;rw[filterMap_cons,F.fr];rfl
def XP.oO(F:Flat X)(I:Inv X pins σ H s)(h:iq X.prog X.w X.stack H s E e s'):XP X pins σ E e s':=by
 let⟨a,g,k,B,t,rfl,y,C,c,D,j,n,f,i,u,v⟩:=h;have r:Inv X pins σ k s':=I.pk (ch:=[]) C D j c (λb z=>ub z (by simp));have d:∀b o,X.s₀.heap.get? b=some o->∃m,s.heap.get? b=some m:=λb o e=>I.base.there b o e (by rw[F.ex];simp)
 refine⟨a,g,k,B,t,rfl,?_,r,n,f,λb o e q w=>i b o e ?_ w,u,v⟩
 .cases q:X.s₀.heap.get? a with
  | none=>rfl
  | some o=>let⟨m,l⟩:=d a o q;rw[y]at l;cases l
 .rcases q with q | ⟨A,q⟩ | ⟨p,x,rfl⟩
  .exact .inl q
  .exact .inr (d b A q)
  .exact .inr ⟨_,(I.pin p x).1⟩
def XP.nR{C a t:Addr}{vs:Array Value}{h':Heap}{dd:Option Addr}{k:Obj}(F:Flat X)(I:Inv X pins σ H s)(j:∀b o,s.heap.get? b=some o->h'.get? b=some o)(d:s.heap.get? a=none)(i:h'.get? a=some k)(y:k.cls = .ref C)(z:k.data = .fields vs)(G:vs[0]?=↥t)(J:vs[1]?=some .none)
  (w:fCt k=dd) (x:E (.ref C) dd H):XP X pins σ E (.ref a) {s with heap:=h'}:=by
 have r:Inv X pins σ H {s with heap:=h'}:=I.kept (h':=h') (t':=s.toks) j;have h:∀b o,X.s₀.heap.get? b=some o->∃f,s.heap.get? b=some f:=λb o e=>I.base.there b o e (by rw[F.ex];simp)
 have B:H a=none:=by
  cases q:H a with
  | none=>rfl
  | some o=>let⟨K,e⟩:=(I.cL a o q).has;rw[d]at e;cases e
 have m:∀c∈X.stack,∀b,c.frame=some b->b∈fz X.stack:=λc i b l=>mem_filterMap.mpr ⟨c,i,l⟩
 refine⟨a,.ref C,H,PySem.W.hideAll s.heap (fz X.stack),dd,rfl,?_,r,B,⟨λb o e=>j b o (PySem.W.of_hideAll _ e),?_,?_,.inr (.inl ⟨_,_,.ref t,i,y,z,J,G⟩)⟩,λb o e q l=>?_,⟨_,i,w⟩,x⟩
 .cases q:X.s₀.heap.get? a with
  | none=>rfl
  | some o=>let⟨f,g⟩:=h a o q;rw[d]at g;cases g
 .cases q:(PySem.W.hideAll s.heap (fz X.stack)).get? a with
  | none=>rfl
  | some o=>have:=PySem.W.of_hideAll _ q;rw[d]at this;cases this
 .exact(PySem.W.funFrames_hide I.stack m).of_keeps λb o e Z=>⟨o,j b o e,rfl⟩
 .refine PySem.W.hideAll_get _ ?_ l;have:∃f,s.heap.get? b=some f:=by
   rcases q with q | ⟨D,q⟩ | ⟨p,A,rfl⟩
   .cases q':H b with
    | none=>exact ub q' q
    | some u=>exact(I.cL b u q').has
   .exact h b D q
   .exact⟨_,(I.pin p A).1⟩
  let⟨f,g⟩:=this;have v:=j b f g;have n:h'.get? b=some o:=e;rw[v]at n;cases n;exact g
def XP.oP{C:Addr}{us:L9}{h':Heap}{a:Addr}(F:Flat X)(I:Inv X pins σ H s)(b:Heap.MadeExcOf s.heap h' a (.ref C) us)(c:E (.ref C) none H):XP X pins σ E (.ref a) {s with heap:=h'}:=by
 let⟨t,d,e,j⟩:=b.there;exact XP.nR F I b.keeps b.new d rfl rfl rfl rfl rfl c
def XP.stays(F:Flat X){H':Hp}{B h':Heap}(I:Inv X pins σ H' s')
  (f:∀b o,s'.heap.get? b=some o->(H' b≠none\/(∃a,X.s₀.heap.get? b=some a)\/∃p∈X.pn++pins,p.1=b)->b∉fz X.stack->B.get? b=some o)
  (st:B.StaysIn h') (m:s'.heap.UpToSlots h') :
  (∀b o,s'.heap.get? b=some o->(H' b≠none\/(∃a,X.s₀.heap.get? b=some a)\/∃p∈X.pn++pins,p.1=b)->b∉fz X.stack->h'.get? b=some o)/\
  (∀b o,s'.heap.get? b=some o->b∈fz X.stack->∃l,h'.get? b=some {o with slots:=l})/\fy X.prog X.w H' h':=by
 have h:∀b o,s'.heap.get? b=some o->(H' b≠none\/(∃a,X.s₀.heap.get? b=some a)\/∃p∈X.pn++pins,p.1=b)->b∉fz X.stack->h'.get? b=some o:=λb o e q g=>st b o (f b o e q g)
 refine⟨h,λb o e g=>?_,λb u e=>?_⟩
 .let⟨_,n,i,k⟩:=I.stack.mem g;rw[e]at i;cases i;exact m b o e k
 .have j:∀c v,H' c=some v->c∉fz X.stack:=λc v q z=>by rw[I.iz c z]at q;cases q
  refine(I.cL b u e).iQ (λc v d q=>?_) (λZ q=>q) λZ Z q=>q
  rcases d with rfl | d
  .exact h c v q (.inl (by rw[e];simp)) (j c u e)
  .exact h c v q (.inl (by rw[d];simp)) (j c _ d)
end
def XP.rC{P:Program}{w:World}{K:cG}{r:Nw}{g:Heap}{N:L8}{i:Str}{d:Scope}{f:Addr}{l:Value}{A:Around}{c:Nr}{s s':Shared}{H:Hp}{E:XK}{σ:St}{e:Value}
  (h:XP (dJ (iq P w) P w K r g N i d f l A c s H E) [] σ E e s'):(dJ (iq P w) P w K r g N i d f l A c s H E).xe e s':=by
 let⟨a,T,R,B,dd,rfl,na,I,n,S,C,⟨oe,Y,G⟩,hE⟩:=h;refine XV (L:=s.heap.objs.size) I.ok.frames rfl S λh' k up ds=>?_
 let⟨a0,F,_,W⟩:=ds a oe Y;let⟨k1,k2,Z⟩:=XP.stays (X:=dJ (iq P w) P w K r g N i d f l A c s H E) ⟨rfl,rfl,rfl,rfl⟩ I C k.1 up;have D:fz (dJ (iq P w) P w K r g N i d f l A c s H E).stack=s.heap.objs.size::fz c:=rfl;have nL:∀b o,s.heap.get? b=some o->b≠s.heap.objs.size:=λb o e=>vE (vI e)
 have x:∀b o,s.heap.get? b=some o->b∉fz c->b∉fz (dJ (iq P w) P w K r g N i d f l A c s H E).stack:=λb o e j z=>by
  rw[D]at z;rcases mem_cons.mp z with z | z
  .exact nL b o e z
  .exact j z
 have M:∀b:Addr,b∉(dJ (iq P w) P w K r g N i d f l A c s H E).ex:=λb z=>ub (show b∈([]:L7)from z) (by simp)
 have J:∀b,b∈fz c->b∈fz (dJ (iq P w) P w K r g N i d f l A c s H E).stack:=λb z=>by rw[D];exact vp _ z
 refine⟨a,T,R,B,dd,rfl,na,I.os,I.bare,⟨λb o e m j _=>?_,λb o e m j _=>?_,λb o e m _=>I.base.free b o e m (M b),λb o e _=>?_,I.base.eJ,I.base.gS,I.base.iS⟩,Z,n,k,λb o e q j=>?_,⟨a0,F,W.trans G⟩,hE⟩
 .exact k1 b o (I.base.keep b o e m j (M b)) (.inr (.inl ⟨o,e⟩)) (x b o e j)
 .let⟨sl,v⟩:=I.base.slot b o e m j (M b);let⟨O,y⟩:=k2 b _ v (J b j);exact⟨O,y⟩
 .let⟨t,v⟩:=I.base.there b o e (M b);by_cases j:b∈fz c
  .let⟨O,y⟩:=k2 b _ v (J b j);exact⟨_,y⟩
  .exact⟨t,k1 b t v (.inr (.inl ⟨o,e⟩)) (x b o e j)⟩
 .have U:∃t,s'.heap.get? b=some t/\b∉fz (dJ (iq P w) P w K r g N i d f l A c s H E).stack:=by
   rcases q with q | ⟨Q,q⟩
   .cases q':R b with
    | none=>exact ub q' q
    | some u=>
     let⟨ob,z⟩:=(I.cL b u q').has;exact⟨ob,z,λzz=>by rw[I.iz b zz]at q';cases q'⟩
   .let⟨t,v⟩:=I.base.there b Q q (M b);exact⟨t,v,x b Q q j⟩
  let⟨t,v,nf⟩:=U;have q2:R b≠none\/(∃Q,s.heap.get? b=some Q)\/∃p∈(dJ (iq P w) P w K r g N i d f l A c s H E).pn++[],p.1=b:=by
   rcases q with q | q
   .exact .inl q
   .exact .inr (.inl q)
  have y:=C b t v q2 nf;have e3:h'.get? b=some o:=e;rw[k.1 b t y]at e3;cases e3;exact y
noncomputable abbrev XS:=St->XK
noncomputable abbrev sf:=St->Hp->XK->Prop
noncomputable abbrev h7:=St->Hp->XS->Prop
def BJ(X:Cx)(pins:Ny)(E:XS)(e:Value)(s':Shared):Prop:=∃S',XP X pins S' (E S') e s'
def RE(X:Cx)(e:Expr)(t:sf):Prop:=
 ∀(pins:Ny) (s:Shared) (σ:St) (H:Hp) (E:XK),Inv X pins σ H s->t σ H E->wpAny (model X.prog X.w) X.A (eval e X.env) (λj j=>False) (XP X pins σ E) s
def RS(X:Cx)(st:Stmt)(t:h7):Prop:=
 ∀(pins:Ny) (s:Shared) (σ:St) (H:Hp) (E:XS),Inv X pins σ H s->t σ H E->wpAny (model X.prog X.w) X.A (exec st X.env) (λj j=>False) (BJ X pins E) s
def mQ(X:Cx)(st:List Stmt)(t:h7):Prop:=
 ∀(pins:Ny) (s:Shared) (σ:St) (H:Hp) (E:XS),Inv X pins σ H s->t σ H E->wpAny (model X.prog X.w) X.A (execs st X.env) (λj j=>False) (BJ X pins E) s
noncomputable def rE(t:sf):h7:=λσ H E=>t σ H (E σ)
noncomputable def rM(t1:TS)(t2:h7):h7:=λσ H E=>t1 {nx:=λS' H'=>t2 S' H' E,rt:=λj j=>False} σ H
noncomputable def ER(tc:TT)(ta tb:h7):h7:=λσ H E=>tc σ H λb H1=>if b=true then ta σ H1 E else tb σ H1 E
noncomputable def rK:h7:=λj j j=>False
section
variable{X:Cx}{e a b c:Expr}{t:sf}{ta tb:h7}{x:Str}{pos pos':Pos}{st:Stmt}{rest l r:List Stmt}
def C6(c:RE X e t)(d:swapsWith e none pos.line X.env=pure false:=by rfl):RS X (.Expr e pos) (rE t):=λa s b H E I h=>
 wpAny_Expr_any (wpAny_mono (c a s b H _ I h) (λj j z=>z.elim) λe f q=>⟨b,q⟩) I.quiet d
def XH:mQ X l rK:=λj j j j j j h=>h.elim
def Zv(b:RS X st ta):mQ X (st::rest) ta:=λa s c H E I h=>
 wpAny_execs_cons (wpAny_mono (b a s c H E I h) (λj j z=>z.elim) λj j q=>q)
def CO{c:TS}(g:PS X.iw st c)(i:mQ X rest tb):mQ X (st::rest) (rM c tb):=λa s k H E I h=>by
 refine wpAny_execs_cons (wpAny_mono (g a s k H _ (I.gj _) h) (λf j q=>?_) λZ Z z=>False.elim z);cases f with
 | next=>
  let⟨b,d,e,q⟩:=q;exact i a j b d E e.dj q
 | ret v=>let⟨Z,Z,Z,Z,Z,q⟩:=q;exact q.elim
 | brk=>let⟨Z,Z,Z,q⟩:=q;exact q.elim
 | cont=>let⟨Z,Z,Z,q⟩:=q;exact q.elim
def EJ{j:TT}(n:PT X.iw c j)(k:mQ X l ta)(m:mQ X r tb):RS X (.If c l r pos) (ER j ta tb):=λa s b H E I h=>by
 refine wpAny_If (wpAny_mono (n a s b H _ (I.gj _) h) (λd i z_=>?_) λZ Z z=>False.elim z);obtain⟨e,f,g⟩:=z_;cases d with
 | true=>exact k a i b e E f.dj g
 | false=>exact m a i b e E f.dj g
end
section
variable{X:Cx}{k:Nat}{f C:Addr}{fd:FuncData}{ps:L8}{sp:Sp}{dvs:N2}{ds:L9}{E:XK}{x m:Str}{p pos apos:Pos}{e o:Expr}{es:Nt}{ta:TE}{t:TA}
def C7{a:Ny}{g:St}{H:Hp}{s:Shared}{us:L9}{vs:N2}(F:dO X.prog X.w X.K X.mg X.base (iq X.prog X.w) k f fd ps sp)(m:dB k X.A)(i:Binds X.K fd ps ds)(j:Vals dvs ds)(c:Flat X)
  (I:Inv X a g H s) (r:Vals vs us) (h:sp (vs++dvs) H (λZ Z=>False) E):wpAny (model X.prog X.w) X.A (call (.ref f) us) (λZ Z=>False) (XP X a g E) s:=by
 have d:Vals (vs++dvs) (us++ds):=r.append j;have l:⇑(us++ds)=⇑ps:=by rw[<-⇑d];exact F.len _ _ _ _ h
 refine wpAny_call (codeAny_mono (F.run X.A X.stack s H ⟨us,[]⟩ (us++ds) (vs++dvs) _ E m I.ry (i s us I.fH l) d h) λr n b=>?_);cases r with
 | error e=>exact XP.oO c I b
 | ok c=>
  cases c with
  | ret u=>let⟨Z,Z,Z,Z,Z,Z,Z,q⟩:=b;exact q.elim
  | next=>exact False.elim b
  | brk=>exact False.elim b
  | cont=>exact False.elim b
noncomputable def pH(sp:Sp)(dvs:N2)(t:TA):sf:=λσ H E=>t σ H λvs H1=>sp (vs++dvs) H1 (λj j=>False) E
noncomputable def pJ(C:Addr)(m:Str)(sp:Sp)(dvs:N2)(ta:TE)(t:TA):sf:=λσ H E=>ta σ H λx H1=>∃a dx fs,x = .ref a/\H1 a=some (.ins C dx fs)/\fs.lookup m=none/\
 t σ H1 λvs H2=>sp (x::(vs++dvs)) H2 (λj j=>False) E
def Lp(F:dO X.prog X.w X.K X.mg X.base (iq X.prog X.w) k f fd ps sp)(v:dB k X.A)(n:Gl X x)(u:X.mg x=↥f)(o:PySem.W.keepIn X.K (.ref f)=true)(j:Binds X.K fd ps ds)(l:Vals dvs ds)(g:Flat X)
  (i:PA X.iw (e::es) t) (b:(x==("__debug__" : Str))=false:=by decide) (m:starEach (e::es) X.env=(false,eval e X.env)::starEach es X.env:=by rfl) (c:(backTo pos (starEach es X.env)).any (·.1)=false:=by rfl) :
  RE X (.Call (.Name x p) (e::es) [] pos) (pH sp dvs t):=by
 intro a s w H E I h;refine wpAny_Call_Name_kw (ZP I n u ?_ b);refine PySem.W.callWith_K (h₀:=X.base) I.ok.mod.pG o (wpAny_mono (i pos a s w H _ (I.gj _) h) (λC B z_=>?_) λZ Z z=>False.elim z) m c;let⟨D,y,d,r,q⟩:=z_;refine⟨d.dj.fH,?_⟩;exact C7 F v j l g d.dj r q
def Lq{pl:Sem Bool}(K:PE X.iw o ta)(c:lU X.K C)(n:Meth X.K C m f)(F:dO X.prog X.w X.K X.mg X.base (iq X.prog X.w) k f fd ps sp)(L:dB k X.A)(G:Binds X.K fd ps ds)(J:Vals dvs ds)(B:Flat X)(D:PA X.iw (e::es) t)
  (g:starEach (e::es) X.env=(false,eval e X.env)::starEach es X.env:=by rfl) (d:(backTo pos (starEach es X.env)).any (·.1)=false:=by rfl)
  (M:eval (.Call (.Attribute o m apos) (e::es) [] pos) X.env=(do
   let ov <-eval o X.env
   standAt apos.atName
   let (f,first) <-holding [ov] (getMethod ov m pl)
   callWith pos f first (backTo pos (starEach (e::es) X.env)) (backToKw pos (keywordEach [] X.env))):=by rfl) :
  RE X (.Call (.Attribute o m apos) (e::es) [] pos) (pJ C m sp dvs ta t):=by
 intro b s p H E I h;refine PySem.W.methodCall_KW (pl:=pl) (wpAny_mono (K b s p H _ (I.gj _) h) (λu P z_=>?_) λZ Z z=>False.elim z) M;obtain⟨x,v,i,O,a,S,T,y,w,l,q⟩:=z_;subst y;obtain rfl:u=Value.ref a:=O;refine kH i.dj w c n l ?_;refine PySem.W.callWith_K (first:=[.ref a]) (h₀:=X.base) I.ok.mod.pG n.kp (wpAny_mono (D pos b P p v _ i q) (λus U z_=>?_) λZ Z z=>False.elim z) g d;let⟨vs,R,j,r,N⟩:=z_;refine⟨j.dj.fH,?_⟩;exact C7 (us:=.ref a::us) (vs:=.ref a::vs) F L G J B j.dj (.cons rfl r) N
end
def B9{K:cG}{h:Heap}{C:Addr}{c:L9}{newId:String}(X:K.In h)(q:PySem.W.excIn K C c newId=true) :
  ∃bm N nm f bs hdct sn sub ab col dd k0 k1 k2 k3 k5 mN,h.get? C=some (excClassObj nm f C N bs bm hdct sn sub ab col dd k0 k1 k2 k3 k5 newId)/\h.Ns N mN/\mN "__init__"= none/\OwnTail h c bm:=by
 unfold PySem.W.excIn at q;split at q
 .rename_i dd cd sl ho;split at q
  .rename_i C' bm k0 k1 k2 k3 n k5 hm hs;simp only[Bool.and_eq_true,beq_iff_eq,Bool.not_eq_true']at q;let⟨⟨⟨⟨⟨rfl,rfl⟩,a⟩,j⟩,b⟩,d⟩:=q;let⟨nm,bs,k,m,f,i,sn,sub,ab,col,g⟩:=cd;dsimp only at hm a b d;subst hm a;have e:sl = #[k0,k1,k2,k3,some (.builtin n),k5]:=by
    let⟨l⟩:=sl;simp only at hs;rw[hs]
   subst e;exact⟨bm,m,nm,f,bs,i,sn,sub,ab,col,dd,k0,k1,k2,k3,k5,_,X _ _ ho,.of_isNs (PySem.W.isNs_of_in X b),PySem.W.nsMap_none_of_in X b d,PySem.W.tail_of_in X j⟩
  .cases q
 .cases q
noncomputable def rL(C:Addr):h7:=λσ H E=>E σ (.ref C) none H
def CN{X:Cx}{x:Str}{C:Addr}{t d i:Pos}{newId b:String}{c:L9}(j:ExcBaseFacts "ValueError" newId b c)(k:Flat X)(p:Gl X x)(r:X.mg x=↥C)(o:PySem.W.excIn X.K C c newId=true)
  (f:(x==("__debug__" : Str))=false:=by decide):RS X (.Raise (some (.Call (.Name x t) [] [] d)) none i) (rL C):=by
 intro l s v H E I h;let⟨u,N,nm,q,bs,hdct,sn,sub,ab,col,dd,k0,k1,k2,k3,k5,mN,m,n,g,T⟩:=B9 I.fH o;refine wpAny_Raise_call_subT (C:=C) (nm:=nm) (q:=q) (N:=N) (bs:=bs) (bm:=u) (hdct:=hdct) (sn:=sn) (sub:=sub) (ab:=ab) (col:=col) (dd:=dd) (k0:=k0) (k1:=k1) (k2:=k2) (k3:=k3) (k5:=k5)
  j (mN:=mN) (T.hasType j.hasBase) (I.ok.hd k.calm) rfl g (ZP I p r ⟨rfl,?_⟩ f)
 exact evalArgs_empty ⟨rfl,va _,m,n,T,λw a e=>⟨v,XP.oP k I e h⟩⟩
section
variable{P:Program}{w:World}{K:cG}{mg:Nw}{base:Heap}
def MW{k:Nat}{f:Addr}{name c:Str}{d:Arguments}{i:List Stmt}{a:Scope}{M kV m O g L oc:Value}{an od:Option Addr}
  {F:Array (Nv)} {N ps:L8} {sp:Sp} (lk:K.lookup f=some ⟨oc,od,.func (PySem.W.fnOf name c d i a M kV m O an g L),F⟩) (B:PySem.W.codeIn K g c=true) (S:ck N ps a)
  (len:∀vs H Q E,sp vs H Q E->⇑vs=⇑ps)
  (j:∀(A:Around) (outer:Nr) (s:Shared) (H:Hp) (vs:N2) (Q:VK) (E:XK),dB k (A.deeper (envOfC c a s.heap.objs.size f g))->sp vs H Q E->
   ∃t,mQ (dJ (iq P w) P w K mg base N c a f g A outer s H E) i t/\t (start N vs) H (λ_=>E)) :
  dO P w K mg base (iq P w) (k+1) f (PySem.W.fnOf name c d i a M kV m O an g L) ps sp:=by
 refine⟨len,λA outer s H J us vs Q E C p U r u=>?_⟩;have X:=len _ _ _ _ u;have G:K.In s.heap:=p.mod.pG.keeps λb o e=>(p.bs b o e).1
 have D:s.heap.NoLimit:=p.mod.nolimit.keeps λb o e=>(p.bs b o e).1
 have l:∀y∈ps.zip us,a.names.lookup y.1=some .local\/(a.names.lookup y.1=some .cell/\((cellsFrom (s.heap.objs.size+1) a.names []).lookup y.1).isSome=true):=λ⟨n,v⟩ hy=>by
  rcases S.par n (of_mem_zip hy).1 with q | q
  .exact .inl q
  .exact .inr ⟨q,PySem.W.cellsFrom_some _ _ _ (.inl q)⟩
 refine codeAny_call_function C.depth (G _ _ lk) rfl S.co S.gen rfl (PySem.W.codeRec_of G B) (U _ _ _ _ ?_);refine wpAny_newFunctionEnv_cells S.kind l λT W R x=>?_
 subst W;refine⟨D.keeps x.toInCall.keep,codeAny_func ?_⟩;let⟨t,Z,Y⟩:=j A outer s H vs Q E (C.deeper _) u;have I:Inv (dJ (iq P w) P w K mg base N c a f g A outer s H E) [] (start N vs) H R:=Xs S C.hd p X r x;exact wpAny_mono (Z [] R (start N vs) H _ I Y) (λ_ _ z=>z.elim) λe s' ⟨a0,q⟩=>XP.rC q
def fA.EO{x a:Str}{st:Stmt}{f:Addr}{g:FuncData}{N ps:L8}{k:Nat}{sp:Sp}(F:fA K x a st f g)(S:ck N ps (cf st))(len:∀vs H Q E,sp vs H Q E->⇑vs=⇑ps)
  (c:∀(b:Value) (A:Around) (outer:Nr) (s:Shared) (H:Hp) (vs:N2) (Q:VK) (E:XK),dB k (A.deeper (envOfC a (cf st) s.heap.objs.size f b))->sp vs H Q E->
   ∃t,mQ (dJ (iq P w) P w K mg base N a (cf st) f b A outer s H E) (dM st) t/\t (start N vs) H (λZ=>E)):dO P w K mg base (iq P w) (k+1) f g ps sp:=by
 let⟨p,q,kV,i,r,n,b,o,m,rfl,l,d⟩:=F.ex;exact MW l d S len λA outer s H vs Q E j e=>c b A outer s H vs Q E j e
end
noncomputable def rW(cls:Value)(a:Addr):Heap->Prop:=λh=>∃o vs,h.get? a=some o/\o.cls=cls/\o.data = .fields vs
noncomputable def BH(cls:Value)(a:Addr)(dd:Option Addr):Heap->Prop:=λh=>∃o vs,h.get? a=some o/\o.cls=cls/\o.data = .fields vs/\fCt o=dd
noncomputable abbrev oH(cls:Value)(a:Addr)(dd:Option Addr):HO:=.ext (BH cls a dd)
def BH.xc{cls:Value}{a:Addr}{dd:Option Addr}{h:Heap}(x:BH cls a dd h):rW cls a h:=let ⟨o,vs,e,c,f,_⟩:=x;⟨o,vs,e,c,f⟩
def Ko{M:Model}{A:Around}{E:Nz}{s:Shared}{a:Heap}{l:Nr}{e:Addr}{cls a0:Value}{Q:Unit->Shared->Prop}(d:Heap.FlyingW a l e cls a0 s.heap)
  (c:∀h',Heap.FlyingW a l e cls a0 h'->s.heap.UpToSlots h'->DS s.heap h'->Q () {s with heap:=h'}):wpAny M A (setFlight (.ref e) none) Q E s:=by
 refine wpAny_mono (yw (QX _ _) (lands_againW (M:=M) (A:=A) (E:=E) (Q:=λZ b=>Heap.FlyingW a l e cls a0 b.heap/\s.heap.UpToSlots b.heap/\b={s with heap:=b.heap}) d λh' f u=>⟨f,u,rfl⟩)) (λu b z=>?_) λZ Z z=>z.1
 let⟨⟨g,h,i⟩,j⟩:=z;rw[i];exact c _ g h j
section
variable{X:Cx}{pins:Ny}{σ:St}{H:Hp}{s:Shared}
def Inv.landed{H':Hp}{B h':Heap}(F:Flat X)(I:Inv X pins σ H' s)
  (A:∀b o,s.heap.get? b=some o->(H' b≠none\/(∃R,X.s₀.heap.get? b=some R)\/∃p∈X.pn++pins,p.1=b)->b∉fz X.stack->B.get? b=some o)
  (st:B.StaysIn h') (E:s.heap.UpToSlots h'):Inv X pins σ H' {s with heap:=h'}:=by
 let⟨D,J,C⟩:=XP.stays F I A st E;have w:∀b o,X.s₀.heap.get? b=some o->b∉X.fs->b∉fz X.stack:=λb o e f z=>by
  rw[F.fs]at z;rcases mem_cons.mp z with z | z
  .exact ub (Nat.lt_of_lt_of_le (vI e) I.ok.above) (by rw[z];exact Nat.lt_irrefl _)
  .exact f z
 have t:∀b,b∈X.fs->b∈fz X.stack:=λb z=>by rw[F.fs];exact vp _ z
 have a:∀c v,s.heap.IsCell c v->h'.IsCell c v:=λc v ⟨o,Q,G⟩=>by
  let⟨S,e⟩:=E c o Q λT q=>by rw[G]at q;cases q
  exact⟨_,e,G⟩
 refine⟨I.ok,I.os,I.bare,⟨λb o e n f j=>?_,λb o e n f j=>?_,I.base.free,λb o e j=>?_,I.base.eJ,I.base.gS,I.base.iS⟩,?_,λx c e=>?_,I.free,I.dW,λp H=>?_,C,I.len⟩
 .exact D b o (I.base.keep b o e n f j) (.inr (.inl ⟨o,e⟩)) (w b o e f)
 .let⟨S,g⟩:=I.base.slot b o e n f j;let⟨y,h⟩:=J b _ g (t b f);exact⟨y,h⟩
 .let⟨M,g⟩:=I.base.there b o e j;by_cases f:b∈X.fs
  .let⟨y,h⟩:=J b _ g (t b f);exact⟨_,h⟩
  .exact⟨M,D b M g (.inr (.inl ⟨o,e⟩)) (w b o e f)⟩
 .let⟨m,P,O⟩:=I.loc;refine⟨m,E.ns P,λi x v g h N=>?_⟩;let⟨u,r,l⟩:=O i x v g h N;refine⟨u,r,?_⟩;rcases l with l | ⟨k,c,e,z⟩
  .exact .inl l
  .exact .inr ⟨k,c,e,a c _ z⟩
 .let⟨v,z⟩:=I.cell x c e;exact⟨v,a c v z⟩
 .let⟨e,n,K,L,d⟩:=I.pin p H;refine⟨D p.1 p.2 e (.inr (.inr ⟨p,H,rfl⟩)) ?_,n,K,L,d⟩;rw[F.fs];intro z;rcases mem_cons.mp z with z | z
  .exact K z
  .exact L z
def Inv.known{T:Addr}{o:HO}(I:Inv X pins σ H s)(h:H T=none)(l:X.s₀.heap.get? T=none)(j:T≠X.env.locals)(i:∀x c,X.env.cells.lookup x=some c->c≠T)(k:∀p∈X.pn++pins,p.1≠T)
  (f:cD X.prog X.w (upd H T o) s.heap T o):Inv X pins σ (upd H T o) s:=by
 have d:∀b u,H b=some u->b≠T:=λb u e z=>by rw[z,h]at e;cases e
 have t:∀b u,X.s₀.heap.get? b=some u->b≠T:=λb u e z=>by rw[z,l]at e;cases e
 refine⟨I.ok,I.os,I.bare,⟨I.base.keep,I.base.slot,λb u e n m=>(jg (t b u e)).trans (I.base.free b u e n m),I.base.there,λb y e=>?_,λb u v e=>?_,λb w e=>?_⟩,I.loc,I.cell,(jg (Ne.symm j)).trans I.free,λx c e=>(jg (i x c e)).trans (I.dW x c e),λp g=>?_,λb u e=>?_,I.len⟩
 .have:=I.base.eJ b y e;exact(jg (d _ _ this)).trans this
 .have:=I.base.gS b u v e;exact(jg (d _ _ this)).trans this
 .let⟨a,this⟩:=I.base.iS b w e;exact⟨a,(jg (d _ _ this)).trans this⟩
 .let⟨e,n,r⟩:=I.pin p g;exact⟨e,(jg (k p g)).trans n,r⟩
 .by_cases z:b=T
  .subst z;rw[jA]at e;cases e;exact f
  .rw[jg z]at e;exact(I.cL b u e).iQ (λc v Z q=>q) (λc q=>(jg (d _ _ q)).trans q) λc A q=>(jg (d _ _ q)).trans q
noncomputable abbrev Cx.dY(X:Cx)(A:Around):Cx:={X with A:=A,calm:=false,xe:=λj j=>False}
def Inv.dY(I:Inv X pins σ H s){A:Around}(a:A.frames=X.A.frames):Inv (X.dY A) pins σ H s:=
 ⟨⟨I.ok.mod,I.ok.kind,I.ok.glob,I.ok.blt,I.ok.above,I.ok.inj,I.ok.has,I.ok.rx,(λz=>nomatch z),a.trans I.ok.frames,I.ok.md,I.ok.uG,I.ok.bs,I.ok.nJ,I.ok.my,I.ok.mV,I.ok.gE,I.ok.oJ⟩,I.os,I.bare,I.base,I.loc,I.cell,I.free,I.dW,I.pin,I.cL,I.len⟩
def Inv.rH{A:Around}(I:Inv (X.dY A) pins σ H s)(a:X.Ok):Inv X pins σ H s:=⟨a,I.os,I.bare,I.base,I.loc,I.cell,I.free,I.dW,I.pin,I.cL,I.len⟩
def G8{M:Model}{A:Around}{E:Nz}{i:Nat}{n:Str}{D:Pos}{Q:Unit->Shared->Prop}(I:Inv X pins σ H s)(N:X.N.Nodup)(hi:X.N[i]?=some n)(O:X.env.scope.names.lookup n=some .local)
  (h:∀s',Inv X pins (σ.set i none) H s'->Q () s'):wpAny M A (do bindName X.env n .none;unbindBehindTheSuite X.env n D) Q E s:=by
 let⟨m,F,B⟩:=id I.loc;refine wpAny_nameGoes_keeps O F (by rw[I.ok.kind];rfl) λL v C f=>h _ ?_
 let⟨oL,_,_,P,_⟩:=id F;have r:i<⇑σ:=by rw[I.len];exact(vx.mp hi).1
 have a:fy X.prog X.w H L:=λb U e=>by
  refine(I.cL b U e).iQ (λc J l q=>(f.2 c ?_).trans q) (λ_ q=>q) λ_ _ q=>q
  rintro rfl;rcases l with l | l
  .rw[<-l,I.free]at e;cases e
  .rw[I.free]at l;cases l
 refine⟨I.ok,I.os,I.bare,⟨λb o e n w t=>?_,λb o e n w t=>?_,I.base.free,λb o e t=>?_,I.base.eJ,I.base.gS,I.base.iS⟩,⟨_,C,λj y v' g u K=>?_⟩,λy c e=>?_,I.free,I.dW,λp R=>?_,a,#v[I.len]⟩
 .exact(f.2 b (vE (Nat.lt_of_lt_of_le (vI e) I.ok.above))).trans (I.base.keep b o e n w t)
 .let⟨Y,g⟩:=I.base.slot b o e n w t;exact⟨Y,(f.2 b (vE (Nat.lt_of_lt_of_le (vI e) I.ok.above))).trans g⟩
 .let⟨T,g⟩:=I.base.there b o e t;exact⟨T,(f.2 b (vE (Nat.lt_of_lt_of_le (vI e) I.ok.above))).trans g⟩
 .by_cases x:j=i
  .subst x;rw[List.getElem?_set_self r]at u;cases u
  .rw[List.getElem?_set_ne (Ne.symm x)]at u;let⟨Z,W,q⟩:=B j y v' g u K;refine⟨Z,W,?_⟩;rcases q with⟨k,e⟩ | ⟨k,c,e,z⟩
   .refine .inl ⟨k,?_⟩;have:y≠n:=λe=>x (W7 N g (e▸hi))
    simp[this,e]
   .exact .inr ⟨k,c,e,z.sameBut f (I.sT y c e)⟩
 .let⟨J,z⟩:=I.cell y c e;exact⟨J,z.sameBut f (I.sT y c e)⟩
 .let⟨e,n,G,S,d⟩:=I.pin p R;exact⟨(f.2 p.1 G).trans e,n,G,S,d⟩
end
def rT(K:cG)(c:Value)(i:Nat)(tn:TS)(tr:h7)(ts:TS):TS:=λD σ H=>
 tn D σ H\/tr σ H λS' cls dd H'=>PySem.W.exmOne K cls c=some true/\∀a,H' a=none->
  ts {nx:=λσ2 H2=>D.nx (σ2.set i none) H2,rt:=D.rt,bk:=λσ2 H2=>D.bk (σ2.set i none) H2,ct:=λσ2 H2=>D.ct (σ2.set i none) H2} (S'.set i (↥a)) (upd H' a (oH cls a dd))
def MB{X:Cx}{g w:List Stmt}{b0:Stmt}{x n:Str}{C:Addr}{i:Nat}{np hp ad:Pos}{tn:TS}{tr:h7}{ts:TS}(O:Flat X)(hN:X.N.Nodup)(hi:X.N[i]?=some n)(hl:X.env.scope.names.lookup n=some .local)
  (hg:Gl X x) (hm:X.mg x=↥C) (hb:i5 X.iw g tn) (hr:mQ X g tr) (hs:∀A,i5 (X.dY A) (b0::w) ts) (a7:(x==("__debug__" : Str))=false:=by decide) :
  PS X (.Try g [.ExceptHandler (some (.Name x np)) (some n) (b0::w) hp] [] [] ad) (rT X.K (.ref C) i tn tr ts):=by
 intro b s σ H D I h;rcases h with h | h
 .refine wpAny_Try_except (wpAny_mono (hb b s σ H D (I.gj _) h) (λf s1 q=>?_) λ_ _ z=>False.elim z);have q:=q.dj;cases f with
  | next=>exact wpAny_execs_nil q
  | ret v=>exact q
  | brk=>exact q
  | cont=>exact q
 .refine wpAny_Try_except (wpAny_mono (hr b s σ H _ I h) (λ_ _ z=>z.elim) λe s1 xp=>?_);let⟨G,a,R,H',B,dd,rfl,na,I1,nT,Q,M,⟨ac,Z,Y⟩,U,aa⟩:=xp;have J:=Q;rw[O.md]at J;have T:X.A.frames=some (X.env::X.outer):=by rw[<-O.md];exact I.ok.frames
  refine WB T O.fr J λh5 a0 N a3 a5=>?_
  have I5:Inv X b G H' {s1 with heap:=h5}:=I1.landed O M N.1 a3;have a4:Inv (X.dY (X.A.mark (↥a))) b G H' {s1 with heap:=h5}:=I5.dY rfl;have LT:PySem.W.Looks (model X.prog X.w) h5 (typeOf (.ref a)) R:=by
   let⟨ob,a9,hc⟩:=N.there;subst hc;exact(PySem.W.Looks.ld a9).andThen .now
  refine wpAny_handleBy_cons (codeAny_handlers_test (ZP (X:=X.dY (X.A.mark (↥a))) a4 hg hm ?_ a7)) (by intro q;cases q);refine(PySem.W.exm_one I5.fH LT U).here (codeAny_handlers_suite_as ?_);refine Ko N λh6 S ae a6=>?_
  have I6:Inv X b G H' {s1 with heap:=h6}:=I1.landed O M S.1 (a3.trans ae);let⟨oe,ws,l,a1,t,_⟩:=S.first
  have a8:fCt oe=dd:=by
   let⟨o1,e1,_,d1⟩:=(a5.trans a6) a ac Z;rw[l]at e1;cases e1;exact d1.trans Y
  have I7:Inv X b G (upd H' a (oH R a dd)) {s1 with heap:=h6}:=by
   refine I6.known nT na (λz=>?_) (λy c e z=>?_) (λp hp z=>?_) ⟨⟨oe,ws,l,a1,t,a8⟩,⟨oe,l⟩,λh1 h2 ⟨o,vs,e1,e2,e3,e4⟩ k=>⟨o,vs,k o e1,e2,e3,e4⟩⟩
   .let⟨m,⟨o,es,ep,ho,W,_⟩,_⟩:=I6.loc;have j:h6.get? a=some o:=by rw[z];exact ho
    rw[l]at j;cases j;rw[t]at W;cases W
   .let⟨v,o,ho,W⟩:=I6.cell y c e;have j:h6.get? a=some o:=by rw[<-z];exact ho
    rw[l]at j;cases j;rw[t]at W;cases W
   .let⟨e,nn,ne,nf,_⟩:=I1.pin p hp;have ab:p.1∉fz X.stack:=by
     rw[O.fs];intro zz;rcases mem_cons.mp zz with zz | zz
     .exact ne zz
     .exact nf zz
    have:=M p.1 p.2 e (.inr (.inr ⟨p,hp,rfl⟩)) ab;rw[z,Q.2.1]at this;cases this
  refine KF (X:=X) I7 hN hi (.inl hl) (v:=.ref a) rfl (λs8 I8=>?_) (.inr hl);refine wpAny_mono (hs (X.A.mark (↥a)) b s8 _ _ _ (I8.dY rfl) (aa a nT)) (λf s9 q=>?_) λ_ _ z=>False.elim z
  have F:∀{d:St} {K:Hp},Inv (X.dY (X.A.mark (↥a))) b d K s9->(∀P,Inv X b (d.set i none) K P->SP X b D f P)->
    wpAny (model X.prog X.w) X.A (do bindName X.env n .none;unbindBehindTheSuite X.env n hp) (λ_ a2=>SP X b D f a2) X.xe s9:=λ{d K} E k=>G8 (E.rH I.ok) hN hi hl k
  cases f with
  | next=>let⟨d,K,E,q⟩:=q;exact F E λP L=>⟨_,_,L,q⟩
  | brk=>let⟨d,K,E,q⟩:=q;exact F E λP L=>⟨_,_,L,q⟩
  | cont=>let⟨d,K,E,q⟩:=q;exact F E λP L=>⟨_,_,L,q⟩
  | ret u=>let⟨v,d,K,E,r,q⟩:=q;exact F E λP L=>⟨v,_,_,L,r,q⟩
def uh(K:cG)(c:Value)(i:Nat)(tn:TS)(tr:h7)(ts:TS):TS:=λD σ H=>∃Mid:St->Hp->Prop,rT K c i tn tr ts {nx:=Mid,rt:=D.rt} σ H/\∀S' H',Mid S' H'->D.nx S' H'
def Md{X:Cx}{a b:List Stmt}{l:Stmt}{x n:Str}{C:Addr}{i:Nat}{K F g:Pos}{m:TS}{o:h7}{p:TS}(u:Flat X)(w:X.N.Nodup)(hi:X.N[i]?=some n)(B:X.env.scope.names.lookup n=some .local)
  (z:Gl X x) (E:X.mg x=↥C) (y:i5 X.iw a m) (G:mQ X a o) (J:∀A,i5 (X.dY A) (l::b) p) (e:(x==("__debug__" : Str))=false:=by decide) :
  PS X (.Try a [.ExceptHandler (some (.Name x K)) (some n) (l::b) F] [] [] g) (uh X.K (.ref C) i m o p):=by
 intro c s L H D I ⟨t,h,k⟩;refine cN (MB u w hi B z E y G J e c s L H _ I h) λf M q=>?_
 cases f with
 | next=>let⟨d,j,r,q⟩:=q;exact⟨d,j,r,k d j q⟩
 | ret v=>exact q
 | brk=>let⟨Z,Z,Z,q⟩:=q;exact q.elim
 | cont=>let⟨Z,Z,Z,q⟩:=q;exact q.elim
open PySem PySem.Spec PyProof.Rows PySem.W
def IJ(a:Addr)(f:Option Addr):DK (do
   if(<-field (.ref a) 1) == .none then unsupported "frame.own-activation:exception-without-traceback"
   setFlight (.ref a) f):=by
 refine DK.bind (yd _ _) λv=>?_
 split
 .exact DK.bind (.unsupported _) λj=>QX _ _
 .exact QX _ _
noncomputable def NS(a b:h7):h7:=λσ H E=>a σ H E\/b σ H E
def MF{X:Cx}{st:Stmt}{b:List Stmt}{d e:h7}{c:TS}(g:RS X st d)(i:PS X.iw st c)(j:mQ X b e):mQ X (st::b) (NS d (rM c e)):=λa s f H E I h=>by
 rcases h with h | h
 .exact Zv g a s f H E I h
 .exact CO i j a s f H E I h
theorem uL{K:Frag}{t:Value}:∀{a:L9},(∀c∈a,kitOne K t c=some false)->kitAny K t a=some false
 | [],_=>rfl
 | c::r,h=>by
  unfold kitAny;rw[h c vq];exact uL λd b=>h d (vp _ b)
structure iW(K:Frag)(C:Addr):Prop where
 ga:findIn K (.ref C) "__getattribute__"= some (some (.builtin "BaseException.__getattribute__"))
 nh:findIn K (.ref C) "__getattr__"= some none
 cls:findIn K (.ref C) "__class__"= some (some (.builtin "object.__class__"))
 base:subIn K (.ref C) (.type "BaseException")=some true
 obj:subIn K (.ref C) (.type "object")=some true
 is:isClsIn K C=true
section
variable{prog:Program}{w:World}{A:Around}{E:Nz}{K:Frag}{C a:Addr}
def tq{M:Model}{h:Heap}{cls:Value}(p:rW cls a h):Looks M h (typeOf (.ref a)) cls:=by
 let⟨o,d,b,c,j⟩:=p;exact c▸(Looks.ld b).andThen .now
def MO{R:Result->Shared->Prop}{h:Heap}{g:Array GenState}{d:Drawn}{t:Nat}{c:OsState}(Z:iW K C)(X:K.In h)(p:rW (.ref C) a h)(i:R (.ok (.ret (.ref C))) ⟨h,g,d,t,c⟩) :
  codeAny (model prog w) A (.call (.builtin "getset_descriptor.__get__") ⟨[.builtin "object.__class__",.ref a,.ref C],[]⟩) R ⟨h,g,d,t,c⟩:=by
 have e:Looks (model prog w) h (typeOf (.ref a)) (.ref C):=tq p;have b:(⟨h,g,d,t,c⟩:Shared).TypeIs (.builtin "object.__class__") "getset_descriptor":=F.typeOf_object_class;have f:Looks (model prog w) h (isSubtype (.ref C) (.type (".".intercalate ("object.__class__".cutAt '.').dropLast))) true:=by rw[F.owner_object_class];exact looks_subIn X Z.obj
 refine codeAny_call_builtin F.slot_gs_get.plain F.entry_gs_get (F.slot_gs_get.check _ _ _ _ _ _ _ _ b (F.args_gs_get _ _ _) ?_)
 repeat (any_goals (first | assumption | with_reducible refine Looks.at e ?_ | with_reducible refine Looks.at f ?_ | wp_step))
 refine⟨Code.quiet_builtin _ ∅,codeAny_builtin F.entry_object_class ?_⟩
 repeat (any_goals (first | assumption | with_reducible refine Looks.at e ?_ | wp_step))
def Ir{i:Tok}{Q:Fin->Shared->Prop}{h:Heap}{g:Array GenState}{d:Drawn}{t:Nat}{b:OsState}(Z:iW K C)(X:K.In h)(p:rW (.ref C) a h)(m:Q (.done (.ret (.ref C))) ⟨h,g,d,t,b⟩) :
  wpAny (model prog w) A (Builtin.«object.__getattribute__» ⟨[.ref a,.str "__class__" i],[]⟩) Q E ⟨h,g,d,t,b⟩:=by
 have c:Looks (model prog w) h (typeOf (.ref a)) (.ref C):=tq p;have e:=looks_findIn (M:=model prog w) X Z.cls;have f:(⟨h,g,d,t,b⟩:Shared).TypeIs (.builtin "object.__class__") "getset_descriptor":=F.typeOf_object_class;have j:=F.typeOf_object_class;have k:=F.slot_gs_get.lookup;have l:=F.slot_gs_set.lookup
 repeat (any_goals (first | assumption | with_reducible refine Looks.at c ?_ | with_reducible refine Looks.at e ?_ | wp_step))
 refine MO Z X p ?_
 repeat (any_goals (first | assumption | wp_step))
def Ip{M:Model}{b:Value}{Q:Unit->Shared->Prop}{h:Heap}{g:Array GenState}{d:Drawn}{t:Nat}{e:OsState}(Z:iW K C)(X:K.In h)(p:rW (.ref C) a h)(k:Q () ⟨h,g,d,t,e⟩) :
  wpAny M A (checkBuiltinCall "BaseException.__getattribute__" ⟨[.ref a,b],[]⟩) Q E ⟨h,g,d,t,e⟩:=by
 have j:builtinKind "BaseException.__getattribute__"= some .slot:=by trivial
 have c:splitId "BaseException.__getattribute__"= some ("BaseException","__getattribute__"):=by trivial
 have f:Looks M h (typeOf (.ref a)) (.ref C):=tq p;have i:Looks M h (isSubtype (.ref C) (.type "BaseException")) true:=looks_subIn X Z.base;have l:=F.args_bexc_ga (.ref a) b;simp only[checkBuiltinCall,j,c];refine ud ?_;unfold isInstance
 repeat (first | with_reducible refine Looks.at f ?_ | with_reducible refine Looks.at i ?_ | wp_step)
 exact k
def Iq{Q:Option Value->Shared->Prop}{s:Shared}(Z:iW K C)(X:K.In s.heap)(p:rW (.ref C) a s.heap)(q:Q (↥C) {s with toks:=s.toks+1}) :
  wpAny (model prog w) A (getAttr? (.ref a) "__class__") Q E s:=by
 let⟨h,g,d,t,i⟩:=s;have c:Looks (model prog w) h (typeOf (.ref a)) (.ref C):=tq p;have e:=looks_findIn (M:=model prog w) X Z.ga;have L2:=looks_findIn (M:=model prog w) X Z.nh;have f:=F.attr_ValueError.ga.bind (.ref a);have b:(Value.builtin "BaseException.__getattribute__"== Value.builtin "object.__getattribute__")=false:=by trivial
 unfold getAttr? getAttrBy? getAttrBy;refine ud (wpAny_mkText (ud (wpAny_attempt (wpAny_holding (ud (c.at (ud (e.at ?_))))))));dsimp only;rw[show(onTheHeap (Value.ref C)&&Value.builtin "BaseException.__getattribute__"== Value.builtin "object.__getattribute__")=false from by rw[b];rfl];simp only[Bool.false_eq_true,if_false];unfold getAttrByItsOwn hookBefore;rw[show onTheHeap (Value.ref C)=true from rfl];simp only[if_true];refine ud (L2.at ?_);refine ud (wpAny_attempt (wpAny_holding ?_));unfold callGetattribute;simp only[Bool.false_and,Bool.false_eq_true,if_false];unfold boundAndCalled
 repeat (any_goals (first | assumption | wp_step))
 refine codeAny_call_builtin F.attr_ValueError.ga.plain F.entry_bexc_ga (Ip Z X p (Ir Z X p ?_))
 repeat (any_goals (first | assumption | wp_step))
def Cf(Z:iW K C):KitX K (.ref a) (.ref C) (rW (.ref C) a) where
 ty:=λY Y Y p=>tq p
 it:=λY Y X Y=>by
  have b:(clsIn K C).isSome=true:=Z.is;unfold clsIn at b;split at b
  .rename_i c' d' cd' sl' ho;intro g j i m k q;unfold isType loadHead;exact ud (wpAny_loadPart (k _ _ (X _ _ ho)) (uc q))
  .cases b
 ne:=λh f l d n o X c=>by
  have b:(clsIn K C).isSome=true:=Z.is;refine Bool.eq_false_iff.mpr λq=>?_
  have e:C=f:=Value.ref.inj (beq_iff_eq.mp q);subst e;unfold clsIn at b;split at b
  .rename_i c' d' cd' sl' ho;have z:=(X _ _ ho).symm.trans c;cases z
  .cases b
 ca:=λX p k=>Iq Z X p k
end
section
variable{X:Cx}
def pI(K:Frag)(xs:N2)(H:Hp)(Q:VK):Prop:=∃a C dd d u b,xs=[.ref a,d]/\H a=some (oH (.ref C) a dd)/\iW K C/\RelV d u/\kitOne K (.ref C) u=some b/\Q (.bl b) H
def Xk:dE X (.builtin "isinstance") (pI X.K):=by
 intro l s E H B A Q I r h;let⟨a,C,m,d,u,b,rfl,o,Z,g,e,q⟩:=h;let⟨v,c,rfl,w,f⟩:=vals2 r;cases(show v=Value.ref a from w);let⟨p,Y,Y⟩:=(show cD X.prog X.w H s.heap a (oH (.ref C) a m)from I.cL a _ o)
 have n:kitOne X.K (.ref C) c=some b:=by
  cases d with
  | ref D=>cases(show c=Value.ref D from f);cases(show u=Value.ref D from g);exact e
  | ty T=>cases(show c=Value.type T from f);cases(show u=Value.type T from g);exact e
  | de=>cases(show u=Value.none from g);cases(show c=Value.none from f);exact e
  | bl y=>cases(show u=Value.bool y from g);cases(show c=Value.bool y from f);exact e
  | int i=>let⟨t,z⟩:=(show∃t,u=Value.int i t from g);let⟨k,j⟩:=(show∃t,c=Value.int i t from f);subst z j;unfold kitOne at e|-;rw[vc (by intro h;cases beq_iff_eq.mp h)]at e|-;exact e
  | str i=>let⟨t,z⟩:=(show∃t,u=Value.str i t from g);let⟨k,j⟩:=(show∃t,c=Value.str i t from f);subst z j;unfold kitOne at e|-;rw[vc (by intro h;cases beq_iff_eq.mp h)]at e|-;exact e
  | mu i=>let⟨t,z⟩:=(show∃t,u=Value.bytes i t from g);let⟨k,j⟩:=(show∃t,c=Value.bytes i t from f);subst z j;unfold kitOne at e|-;rw[vc (by intro h;cases beq_iff_eq.mp h)]at e|-;exact e
  | pz i=>let⟨t,z⟩:=(show∃t,u=Value.float i t from g);let⟨k,j⟩:=(show∃t,c=Value.float i t from f);subst z j;unfold kitOne at e|-;rw[vc (by intro h;cases beq_iff_eq.mp h)]at e|-;exact e
 exact kia_one (Cf Z) I.fH p.xc n (λz=>nomatch z) λx=>⟨.bl b,H,I.tok _,rfl,q⟩
def DP{a C:Addr}{dd:Option Addr}{d:V}{u:Value}{b:Bool}{K:Frag}{H:Hp}{Q:VK}(c:H a=some (oH (.ref C) a dd))(Z:iW K C)(e:kitOne K (.ref C) u=some b)(q:Q (.bl b) H)(f:RelV d u:=by rfl):pI K [.ref a,d] H Q:=⟨a,C,dd,d,u,b,rfl,c,Z,f,e,q⟩
def tK(K:Frag)(xs:N2)(H:Hp)(Q:VK):Prop:=∃(a C tp:Addr) (dd:Option Addr) (cs:L7) (b:Bool),xs=[.ref a,.ref tp]/\H a=some (oH (.ref C) a dd)/\iW K C/\H tp=some (.tup (cs.map V.ref))/\kitAny K (.ref C) (cs.map Value.ref)=some b/\Q (.bl b) H
theorem xF:∀{a:L7} {us:L9},Vals (a.map V.ref) us->us=a.map Value.ref
 | [],_,.nil=>rfl
 | _::_,_,.cons r t=>by rw[xF t];cases r;rfl
def K2:dE X (.builtin "isinstance") (tK X.K):=by
 intro g s L H K J Q I r h;let⟨a,C,c,j,i,b,rfl,l,Z,t,e,q⟩:=h;let⟨v,D,rfl,B,y⟩:=vals2 r;cases(show v=Value.ref a from B);cases(show D=Value.ref c from y);let⟨p,Y,Y⟩:=(show cD X.prog X.w H s.heap a (oH (.ref C) a j)from I.cL a _ l)
 let⟨Y,u,A,⟨o,k,d,n,f⟩⟩:=(show cD X.prog X.w H s.heap c (.tup (i.map V.ref))from I.cL c _ t)
 have m:=xF A;subst m;let⟨E,F,w,x⟩:=o;dsimp only at d f;subst d f;exact kia_tup (Cf Z) I.fH p.xc k e (λz=>nomatch z) λG=>⟨.bl b,H,I.tok _,rfl,q⟩
def xI:bootBuiltins "ValueError"= some (.type "ValueError"):=by trivial
def XG{t:h7}{a S':St}{H:Hp}{E:XS}(e:a=S')(h:t S' H E):t a H E:=by subst e;exact h
def DQ{a:TS}{b:h7}{c:St}{H:Hp}{E:XS}(h:a {nx:=λS' H'=>b S' H' E,rt:=λj j=>False} c H):rM a b c H E:=h
def Er{e:TT}{c d:h7}{a:St}{H:Hp}{E:XS}(h:e a H λb H1=>if b=true then c a H1 E else d a H1 E):ER e c d a H E:=h
def EI{t:sf}{a:St}{H:Hp}{E:XS}(h:t a H (E a)):rE t a H E:=h
def IU{sp:Sp}{a:N2}{t:TA}{b:St}{H:Hp}{E:XK}(h:t b H λvs H1=>sp (vs++a) H1 (λj j=>False) E):pH sp a t b H E:=h
def IV{C:Addr}{m:Str}{sp:Sp}{b:N2}{d:TE}{t:TA}{c:St}{H:Hp}{E:XK} (h:d c H λx H1=>∃a dx fs,x = .ref a/\H1 a=some (.ins C dx fs)/\fs.lookup m=none/\
 t c H1 λvs H2=>sp (x::(vs++b)) H2 (λj j=>False) E):pJ C m sp b d t c H E:=h
def Lo{K:Frag}{c:Value}{i:Nat}{g:TS}{d:h7}{e:TS}{D:Ends}{f:St}{H:Hp} (h:d f H λS' cls dd H'=>exmOne K cls c=some true/\∀a,H' a=none->
  e {nx:=λb H2=>D.nx (b.set i none) H2,rt:=D.rt,bk:=λb H2=>D.bk (b.set i none) H2,ct:=λb H2=>D.ct (b.set i none) H2} (S'.set i (↥a)) (upd H' a (oH cls a dd))):rT K c i g d e D f H:=.inr h
end
def xK:entryFor table "proto.unchain"= some Builtin.«proto.unchain»:=entryFor_of_fast (by kernel_rfl)
def FK{c:Type}{prog:Program}{w:World}{A:Around}{E:Nz}{s:Shared}{e h:Addr}{d f:Obj}{vs g:Array Value}{Q:c->Shared->Prop}(n:A.handled=↥h)(m:s.heap.get? e=some d)(l:d.data = .fields vs)(p:2<vs.size)
  (o:s.heap.get? h=some f) (hw:f.data = .fields g) (j:g[2]?=some .none) (q:h≠e) (k:E (.ref e) {s with heap:=s.heap.update e (Obj.mapFields (·.setIfInBounds 2 (.ref h)))}):wpAny (model prog w) A (raiseNew (.ref e):Sem c) Q E s:=by
 unfold raiseNew;refine ud (wpAny_handled ?_);rw[n];have b:(Value.ref h != Value.ref e)=true:=by
  rw[bne_iff_ne];intro z;injection z with z;exact q z
 simp only[b,if_true];refine ud (wpAny_holding (wpAny_runValue (codeAny_builtin xK ?_)));unfold Builtin.«proto.unchain»;dsimp only;refine ud (wpAny_field o hw j ?_);rw[vd nofun];refine wpAny_mono (uc (M:=model prog w) (Q:=λr a=>r=Fin.done (.ret .none)/\a=s) ⟨rfl,rfl⟩) (λr a z=>?_) λZ Z z=>z
 let⟨rfl,rfl⟩:=z;dsimp only;show wpAny _ _ (do updateField e 2 (Value.ref h);throw (Value.ref e)) Q E a;refine ud ?_;have u:=wpAny_setField (M:=model prog w) (A:=A) (E:=E) (i:=2) (x:=.ref h) m l p (Q:=λZ t=>wpAny (model prog w) A (throw (Value.ref e):Sem c) Q E t) (wpAny_throw k);exact u
section
variable{prog:Program}{w:World}{A:Around}{E:Nz}{env:Env}
variable{nm q:Str}{C N:Addr}{bs bm bmB:L9}{hdct:Bool}{sn:L8}{sub:L9}{ab:Bool}{col:Option Bool}{dd:Option Addr}{k0 k1 k2 k3 k5:Nv}{newId:String}
def FQ{s:Shared}{h:Addr}{x c:Sem Value}{Q:Flow->Shared->Prop}(f:bm.contains (.type "BaseException")=true)(J:A.handled=↥h)(I:∀(R:Nz) s',R .none s'->wpAny (model prog w) A c R E s')
  (K:wpAny (model prog w) A x (λv a=>∃e t p r,v = .ref e/\a.heap.get? C=some (excClassObj nm q C N bs bm hdct sn sub ab col dd k0 k1 k2 k3 k5 newId)/\C≠e/\h≠e/\a.heap.get? h=some p/\p.data = .fields r/\r[2]?=some .none/\
   a.heap.get? e=some {cls:=.ref C,data:=.fields #[.ref t,.none,.none,.none,.bool false,.none]}/\
   ∀h',(∀b o,b≠e->a.heap.get? b=some o->h'.get? b=some o)->h'.get? e=some {cls:=.ref C,data:=.fields #[.ref t,.none,.ref h,.none,.bool true,.none]}->E (.ref e) {a with heap:=h'}) E s) :
  wpAny (model prog w) A (raiseStmt env (some x) (some c)) Q E s:=by
 have l:(Value.ref C::bm).contains (.type "BaseException")=true:=by rw[List.contains_cons,f,Bool.or_true]
 unfold raiseStmt;refine ud (wpAny_mono K (λv a j=>?_) λZ Z x=>x);let⟨e,t,p,r,rfl,u,M,B,n,m,G,y,H⟩:=j;let⟨z,g,d,P,O⟩:=a;refine ud (wpAny_holding (I _ _ (ud (uc ?_))));dsimp only[Option.toList]
 repeat (first | with_reducible refine wpAny_loadPart_at y ?_ | with_reducible refine wpAny_loadPart_at u ?_ | (with_reducible refine wpAny_isSubtype_exc u ?_;rw[l]) | wp_step)
 have L:=Heap.get?_update_self (Obj.mapFields (·.setIfInBounds 3 Value.none)) y rfl;have F:=Heap.get?_update_self (Obj.mapFields (·.setIfInBounds 4 (Value.bool true))) L rfl;have D:∀b,b≠e->((z.update e (Obj.mapFields (·.setIfInBounds 3 Value.none))).update e (Obj.mapFields (·.setIfInBounds 4 (Value.bool true)))).get? b=z.get? b:=λb i=>(Heap.get?_update_ne _ _ _ _ i).trans (Heap.get?_update_ne _ _ _ _ i)
 refine FK J F rfl (show 2<6 by decide) ((D h B).trans n) m G B (H _ (λb o i k=>(Heap.get?_update_ne _ _ _ _ i).trans ((D b i).trans k)) ?_);exact Heap.get?_update_self (Obj.mapFields (·.setIfInBounds 2 (Value.ref h))) F rfl
def wK{B c:String}{s:Shared}{h:Addr}(F:ExcBaseFacts B newId c bmB){mN:Nw}{x:Str}{M k r L:Pos}{jk:Nat}{Q:Flow->Shared->Prop}(i:bm.contains (.type "BaseException")=true)(W:A.handled=↥h)(J:mN "__init__"= none)
  (hx:wpAny (model prog w) A (eval (.Name x M) env) (λf a=>f = .ref C/\∃y D,a.heap.get? C=some (excClassObj nm q C N bs bm hdct sn sub ab col dd k0 k1 k2 k3 k5 newId)/\a.heap.Ns N mN/\OwnTail a.heap bmB bm/\a.heap.get? h=some y/\y.data = .fields D/\D[2]?=some .none/\
    ∀h' e t,(∀b o,a.heap.get? b=some o->h'.get? b=some o)->a.heap.get? e=none->h'.get? e=some {cls:=.ref C,data:=.fields #[.ref t,.none,.ref h,.none,.bool true,.none]}->E (.ref e) {a with heap:=h'}) E s) :
  wpAny (model prog w) A (exec (.Raise (some (.Call (.Name x M) [] [] k)) (some (.Constant .none jk r)) L) env) Q E s:=by
 rw[arm_exec_Raise];refine ud (wpAny_standAt (FQ (C:=C) (nm:=nm) (q:=q) (N:=N) (bs:=bs) (bm:=bm) (hdct:=hdct) (sn:=sn) (sub:=sub) (ab:=ab) (col:=col) (dd:=dd) (k0:=k0) (k1:=k1) (k2:=k2) (k3:=k3) (k5:=k5) (newId:=newId) i W (λR s' U=>?_)
  (ud (wpAny_mono (wpAny_Call_ofName (wpAny_mono hx (λf a n=>?_) λR R x=>x)) (λv O p=>ud (wpAny_standAt (uc p))) λR R x=>x))))
 .exact ud (Constant_none (ud (wpAny_standAt (uc U))))
 let⟨rfl,y,D,u,X,T,m,I,P,S⟩:=n;unfold callWith;refine ud (wpAny_holding (evalArgs_empty (ud (wpAny_standAt ?_))));let⟨Y,g,d,tk,os⟩:=a;refine ud (wpAny_keeperOf_exc u ?_);refine ud (wpAny_call_exc_subT F T u X J λh' e j=>ud (wpAny_holding (wpAny_point (uc ?_))));let⟨t,Z,R,R⟩:=j.there;have K:∀b o,Y.get? b=some o->b≠e:=λb o l z=>by rw[z,j.new]at l;cases l
 exact⟨e,t,y,D,rfl,j.keeps _ _ u,K _ _ u,K _ _ m,j.keeps _ _ m,I,P,Z,λG kp H=>S G e t (λb o l=>kp b o (K b o l) (j.keeps b o l)) j.new H⟩
end
section
variable{X:Cx}{pins:Ny}{σ:St}{H:Hp}{s s':Shared}{E:XK}{e:Value}
def XP.Bq{A:Around}(hA:A.frames=X.A.frames)(F:Flat X)(h:XP X pins σ E e s'):notedBy (model X.prog X.w) A X.env (cameBackBy (model X.prog X.w) X.A X.env (XP X pins σ E)) e s':=by
 let⟨a,i,t,B,W,rfl,na,I,nT,v,j,⟨N,s,r⟩,hE⟩:=h;have d:=v;rw[F.md]at d;have n:X.A.frames=some (X.env::X.outer):=by rw[<-F.md];exact I.ok.frames
 have k:=yw (X9 (.ref a) X.env) (Gu (M:=model X.prog X.w) (A:=A) (E:=λZ Z=>False) (Q:=λZ f=>(∃m,Heap.HeldW B (X.env::X.outer) a i m X.env.locals f.heap)/\s'.heap.UpToSlots f.heap/\f={s' with heap:=f.heap}) (hA.trans n) F.fr d λZ m J u=>⟨⟨m,J⟩,u,rfl⟩);refine wpAny_mono k (λZ f z_=>?_) λZ Z z=>z.1.elim;obtain⟨⟨⟨m,J⟩,u1,y⟩,w⟩:=z_
 have l:=yw (IJ a X.env.frame) (FZ (M:=model X.prog X.w) (A:=X.A) (E:=λZ Z=>False) (Q:=λZ g=>Heap.HeldW B (X.env::X.outer) a i m X.env.locals g.heap/\f.heap.UpToSlots g.heap/\g={f with heap:=g.heap}) J F.fr λZ K u=>⟨K,u,rfl⟩);refine wpAny_mono l (λZ g z_=>?_) λZ Z z=>z.1.elim;obtain⟨⟨c,u2,C⟩,x⟩:=z_
 have T:=u1.trans u2;let⟨k1,Z,Z⟩:=XP.stays F I j c.1 T;have U:Inv X pins σ t g:=by
  have Y:g={s' with heap:=g.heap}:=C.trans (by
   let⟨Z,Z,Z,Z,Z⟩:=f;injection y with _ q1 q2 q3 q4;subst q1 q2 q3 q4;rfl)
  rw[Y];exact I.landed F j c.1 T
 let⟨O,H,Z,G⟩:=(w.trans x) a N s;refine⟨a,i,t,B,W,rfl,na,U,nT,⟨c.1,c.2.1,by rw[F.md];exact c.2.2.1,.inr (.inr ⟨X.env,X.outer,X.env.locals,m,F.md,F.fr,c.2.2.2⟩)⟩,λb o e q S=>?_,⟨O,H,G.trans r⟩,hE⟩;have D:∃L,s'.heap.get? b=some L:=by
  rcases q with q | ⟨o0,q⟩ | ⟨p,hp,q⟩
  .cases q':t b with
   | none=>exact ub q' q
   | some u=>exact(I.cL b u q').has
  .exact I.base.there b o0 q (by rw[F.ex];simp)
  .exact⟨p.2,by rw[<-q];exact(I.pin p hp).1⟩
 let⟨L,P⟩:=D;have R:=k1 b L P q S;rw[e]at R;cases R;exact j b o P q S
end
noncomputable def pK(K:cG)(c:Value)(D:Addr)(tr:h7):h7:=λσ H E=>tr σ H λS' cls dd H'=>PySem.W.exmOne K cls c=some true/\dd=none/\E S' (.ref D) (some 0) H'
def Lv{X:Cx}{g:List Stmt}{x y:Str}{C D:Addr}{np hp a7 yp cp kp rp:Pos}{jk:Nat}{tr:h7}{newId d:String}{l:L9}(FB:ExcBaseFacts "ValueError" newId d l)(j:Flat X)
  (hg:Gl X x) (hm:X.mg x=↥C) (hr:mQ X g tr) (Z:Gl X y) (a1:X.mg y=↥D) (S:PySem.W.excIn X.K D l newId=true) (U:(x==("__debug__" : Str))=false:=by decide) (Y:(y==("__debug__" : Str))=false:=by decide) :
  RS X (.Try g [.ExceptHandler (some (.Name x np)) none [.Raise (some (.Call (.Name y yp) [] [] cp)) (some (.Constant .none jk kp)) rp] hp] [] [] a7) (pK X.K (.ref C) D tr):=by
 intro b s σ H E I h;refine wpAny_Try_except (wpAny_mono (hr b s σ H _ I h) (λ_ _ z=>z.elim) λe G xp=>?_);let⟨c,a,O,F,B,dd,rfl,na,I1,nT,M,m,⟨a6,v,r⟩,p,W,a4⟩:=xp;have f:=M;rw[j.md]at f;have o:X.A.frames=some (X.env::X.outer):=by rw[<-j.md];exact I.ok.frames
 refine WB o j.fr f λR a0 k w P=>?_
 have I5:Inv X b c F {G with heap:=R}:=I1.landed j m k.1 w;have J:Inv (X.dY (X.A.mark (↥a))) b c F {G with heap:=R}:=I5.dY rfl;have LT:PySem.W.Looks (model X.prog X.w) R (typeOf (.ref a)) O:=by
  let⟨ob,a3,S⟩:=k.there;subst S;exact(PySem.W.Looks.ld a3).andThen .now
 refine wpAny_handleBy_cons (codeAny_handlers_test (ZP (X:=X.dY (X.A.mark (↥a))) J hg hm ?_ U)) (by intro q;cases q);refine(PySem.W.exm_one I5.fH LT p).here (codeAny_handlers_suite ?_);refine Ko k λh6 n a8 Q=>?_
 have K:Inv X b c F {G with heap:=h6}:=I1.landed j m n.1 (w.trans a8);have L:Inv (X.dY (X.A.mark (↥a))) b c F {G with heap:=h6}:=K.dY rfl;let⟨oe,ws,u,a9,i,_⟩:=n.first
 have h2:ws[2]?=some .none:=by
  let⟨o1,e1,_,d1⟩:=(P.trans Q) a a6 v;rw[u]at e1;cases e1;have z:=(d1.trans r).trans W;unfold fCt at z;rw[i]at z;dsimp only at z;split at z
  .assumption
  .cases z
 let⟨tl,N,nm,q,bs,hdct,sn,sub,ab,col,dC,k0,k1,k2,k3,k5,mN,hC,hN,a2,T⟩:=B9 K.fH S;refine wpAny_execs_cons (wK (C:=D) (nm:=nm) (q:=q) (N:=N) (bs:=bs) (bm:=tl) (hdct:=hdct) (sn:=sn) (sub:=sub) (ab:=ab) (col:=col) (dd:=dC) (k0:=k0) (k1:=k1) (k2:=k2) (k3:=k3) (k5:=k5) (h:=a)
  FB (mN:=mN) (T.hasType FB.hasBase) rfl a2 (ZP (X:=X.dY (X.A.mark (↥a))) L Z a1 ⟨rfl,oe,ws,hC,hN,T,u,i,h2,λh' e t kp a5 he=>?_⟩ Y))
 refine wpAny_mono (XP.Bq (A:=X.A.mark (↥a)) rfl j (XP.nR (E:=E c) j K kp a5 he rfl rfl rfl rfl rfl a4)) (λ_ s2 q2=>?_) λ_ s2 q2=>?_
 all_goals exact wpAny_mono q2 (λ_ _ z=>⟨c,z⟩) λ_ _ z=>⟨c,z⟩
def CG{X:Cx}{a:List Stmt}{e:ExceptHandler}{i:List ExceptHandler}{c:Pos}{d:TS}(g:i5 X.iw a d):PS X (.Try a (e::i) [] [] c) d:=by
 intro b s j H D I h;refine wpAny_Try_except (wpAny_mono (g b s j H D (I.gj _) h) (λf k q=>?_) λZ Z z=>False.elim z);have q:=q.dj;cases f with
 | next=>exact wpAny_execs_nil q
 | ret v=>exact q
 | brk=>exact q
 | cont=>exact q
def IW{K:cG}{c:Value}{D:Addr}{a:h7}{b:St}{H:Hp}{E:XS}(h:a b H λS' cls dd H'=>PySem.W.exmOne K cls c=some true/\dd=none/\E S' (.ref D) (some 0) H'):pK K c D a b H E:=h
end L2
namespace Rm
open PySem PySem.Spec PyProof.Rows L2
noncomputable def mB(pc:Nat->List Pc)(gs:L5):Nat->Nat->Int->L3
 | 0,_,_=>[]
 | n+1,i,t=>if gs∘i<=t then[]else(i,t)::(fV gs t (pc i)).flatMap λx=>mB pc gs n x.1 x.2
noncomputable def mz(ps:N1)(gs:L5)(i:Nat)(t:Int):L3:=mB (cT ps gs) gs (i+1) i t
section
variable{ls:L4}{ps:N1}{gs:L5}{hs:L1}
theorem CF(W:eE ls ps):∀{n m i:Nat} {t:Int},i<n->i<m->mB (cT ps gs) gs n i t=mB (cT ps gs) gs m i t
 | 0,_,_,_,h,_=>ub h (Nat.not_lt_zero _)
 | _,0,_,_,_,h=>ub h (Nat.not_lt_zero _)
 | n+1,m+1,i,t,h1,h2=>by
  unfold mB;split
  .rfl
  .congr 1;exact Qp λx a=>by
    have:=zr W a;exact CF W ⋯ ⋯
def xi{i:Nat}{t:Int}(h:gs∘i<=t):mz ps gs i t=[]:=by
 unfold mz mB;rw[vd h]
def uR(W:eE ls ps){i:Nat}{t:Int}(h:¬gs∘i<=t):mz ps gs i t=(i,t)::(fV gs t (cT ps gs i)).flatMap λx=>mz ps gs x.1 x.2:=by
 unfold mz;rw[mB,vc h];congr 1;exact Qp λx a=>by
  have:=zr W a;exact CF W ⋯ ⋯
theorem WT{p n:Type}{f:p->List n}{x:n}:∀{l:List p} {pre e:List n},l.flatMap f=pre++x::e->∃c∈l,∃a b r,f c=a++x::b/\e=b++r
 | [],pre,e,h=>by cases pre<;>simp at h
 | c::l,pre,e,h=>by
  rw[flatMap_cons]at h;rcases List.append_eq_append_iff.mp h with⟨i,o,g⟩ | ⟨i,o,g⟩
  .let⟨d,m,a,b,r,j,k⟩:=WT g;exact⟨d,vp _ m,a,b,r,j,k⟩
  .cases i with
   | nil=>
    rw[nil_append]at g;let⟨d,m,a,b,r,j,k⟩:=WT (pre:=[]) (show l.flatMap f=[]++x::e from g.symm);exact⟨d,vp _ m,a,b,r,j,k⟩
   | cons y i=>
    rw[List.cons_append]at g;injection g with e3 e4;exact⟨c,vq,pre,i,l.flatMap f,by rw[o,e3],e4⟩
def Lr{q:Pc}{t r:Int}{y:m9}(e:mP gs q)(h:dD gs t q=some y)(a:y.2.2.2=some r):0<=r/\r<gs∘y.1:=by
 unfold dD at h;split at h
 .rename_i c;cases h;dsimp only at a|-;split at a
  .rename_i d;cases a;let⟨Z,f,Z⟩:=e;have b:ov gs t q=(t-q.2.2)/gs∘q.1:=by
    unfold ov at d|-;split
    .rename_i z;rw[vd z]at d;lia
    .rfl
   rw[b,Int.mul_comm];have g:=ve (t-q.2.2) (show gs∘q.1≠0 by lia);have i:=vf (t-q.2.2) (show 0<gs∘q.1 by lia);have j:=Int.emod_add_mul_ediv (t-q.2.2) (gs∘q.1);lia
  .cases a
 .cases h
def Mb(N:Sn ls ps gs hs):∀{i:Nat} {t:Int} {pre d:L3} {x:Nat×Int},mz ps gs i t=pre++x::d->∀y∈dS gs x.2 (cT ps gs x.1),∀r,y.2.2.2=some r->(y.1,r)∈d:=by
 have W:=N.s.w;intro i
 induction i using Nat.strongRecOn with
 | ind i ih=>
  intro t pre d x h y g r f;by_cases c:gs∘i<=t
  .rw[xi c]at h;cases pre<;>simp at h
  .rw[uR W c]at h;cases pre with
   | nil=>
    rw[nil_append]at h;injection h with h1 h2;subst h1;let⟨q,n,e⟩:=Ks g;have u:=Lr (N.nS n) e f;have o:(y.1,r)∈fV gs t (cT ps gs i):=by
     unfold fV;refine mem_flatMap.mpr ⟨y,g,?_⟩;unfold fx;rw[f];exact mem_append_right _ (vo.mpr rfl)
    rw[<-h2];refine mem_flatMap.mpr ⟨_,o,?_⟩;show(y.1,r)∈mz ps gs y.1 r;rw[uR W ⋯];exact vq
   | cons p pre=>
    rw[List.cons_append]at h;injection h with h1 h2;let⟨j,m,a,b,s,k,l⟩:=WT h2;have:=ih j.1 (zr W m) k y g r f;rw[l];exact mem_append_left _ this
inductive fk(C:Addr)(vs:N2)(H:Hp)(Q:VK)(xk:XK):Prop
 | mk (a:Addr) (z:Sa) (ls:L4) (ps:N1) (gs:L5) (hs:L1) (E:L0) (t:Int) (_:vs=[.ref a,.int t]) (_:cV C H a z ls ps gs E) (_:Sn ls ps gs hs) (_:0<=t) (_:t<=gs∘(⇑ps-1)) (_:∀(r l1 l2:Addr) (as:L7) (P:L3) (H':Hp),cj H H'->H l1=none->H l2=none->H' r=some (.tup [.ref l1,.ref l2])->H' l1=some (.lst ((gK ls ps gs E t).map V.int))->⇑(gK ls ps gs E t)=⇑ls->(∀h∈gK ls ps gs E t,0<=h/\h<=10^18)->H' l2=some (.lst (as.map V.ref))->l1≠l2->fB H' as P->⇑P<=5000->(∀x∈P,x.1<⇑ps/\0<=x.2/\x.2<gs∘x.1)->P.filter (eO ps gs)=((reach ps gs (⇑ps-1) t).filter λx=>!i9 gs x)->P=mz ps gs (⇑ps-1) t->Q (.ref r) H'):fk C vs H Q xk
noncomputable def eI(f:Nat->Int->PyData)(y:m9):PyData:=match y.2.2.2 with | some r=>f y.1 r | none=>.none
noncomputable def gh(ls:L4)(ps:N1)(gs:L5)(st:L5):Nat->Nat->Int->PyData
 | 0,_,_=>.none
 | n+1,i,t=>match ps[i]? with
  | some (_,.rise x _ _)=>.tuple [.int t,.int (st∘(cS (cb ls) x))]
  | some (_,.hold _)=>.tuple [.int t]
  | some (_,.ring _ _)=>.tuple [.int t]
  | some (_,.side _)=>.tuple ((dS gs t (cT ps gs i)).map (eI (gh ls ps gs st n)))
  | some (_,_)=>.tuple [.int ((dS gs t (cT ps gs i)).map λy=>y.2.2.1).sum,(((dS gs t (cT ps gs i)).map (eI (gh ls ps gs st n))).getLast?).getD .none]
  | none=>.none
noncomputable def cO(ls:L4)(ps:N1)(gs:L5)(st:L5)(i:Nat)(t:Int):PyData:=gh ls ps gs st (i+1) i t
def AI(W:eE ls ps){i:Nat}{t:Int}{y:m9}(h:y∈dS gs t (cT ps gs i)):y.1<i:=by
 let⟨q,a,e⟩:=Ks h;rw[xj e];exact A2 W a
theorem CD{st:L5}(W:eE ls ps):∀{n m i:Nat} {t:Int},i<n->i<m->gh ls ps gs st n i t=gh ls ps gs st m i t
 | 0,_,_,_,h,_=>ub h (Nat.not_lt_zero _)
 | _,0,_,_,_,h=>ub h (Nat.not_lt_zero _)
 | n+1,m+1,i,t,h1,h2=>by
  have e:(dS gs t (cT ps gs i)).map (eI (gh ls ps gs st n))=(dS gs t (cT ps gs i)).map (eI (gh ls ps gs st m)):=map_congr_left λy a=>by
   have:=AI W a;unfold eI;split
   .exact CD W ⋯ ⋯
   .rfl
  unfold gh;split<;>first | rfl | rw[e]
def Ao{st:L5}(W:eE ls ps){i:Nat}{t:Int}:(dS gs t (cT ps gs i)).map (eI (gh ls ps gs st i))=(dS gs t (cT ps gs i)).map (eI (cO ls ps gs st)):=map_congr_left λy a=>by
 have:=AI W a;unfold eI;split
 .exact CD W ⋯ ⋯
 .rfl
def yr{st:L5}{i:Nat}{t:Int}{nm x:Str}{v n:Int}(h:ps[i]?=some (nm,.rise x v n)):cO ls ps gs st i t = .tuple [.int t,.int (st∘(cS (cb ls) x))]:=by unfold cO gh;rw[h]
def yj{st:L5}{i:Nat}{t:Int}{nm:Str}{n:Int}(h:ps[i]?=some (nm,.hold n)):cO ls ps gs st i t = .tuple [.int t]:=by unfold cO gh;rw[h]
def yq{st:L5}{i:Nat}{t:Int}{nm x:Str}{n:Int}(h:ps[i]?=some (nm,.ring x n)):cO ls ps gs st i t = .tuple [.int t]:=by unfold cO gh;rw[h]
def Ky{st:L5}(W:eE ls ps){i:Nat}{t:Int}{nm:Str}{xs:L8}(h:ps[i]?=some (nm,.side xs)):cO ls ps gs st i t = .tuple ((dS gs t (cT ps gs i)).map (eI (cO ls ps gs st))):=by
 rw[<-Ao W];unfold cO gh;rw[h]
noncomputable def lD(Y:List m9)(F:Nat->Int->PyData):PyData:=.tuple [.int (Y.map λy=>y.2.2.1).sum,((Y.map (eI F)).getLast?).getD .none]
def Wo{st:L5}(W:eE ls ps){i:Nat}{t:Int}{nm:Str}{xs:L8}(h:ps[i]?=some (nm,.row xs)):cO ls ps gs st i t=lD (dS gs t (cT ps gs i)) (cO ls ps gs st):=by
 unfold lD;rw[<-Ao W];unfold cO gh;rw[h]
def Y7{st:L5}(W:eE ls ps){i:Nat}{t:Int}{nm x:Str}{k:Int}(h:ps[i]?=some (nm,.again k x)):cO ls ps gs st i t=lD (dS gs t (cT ps gs i)) (cO ls ps gs st):=by
 unfold lD;rw[<-Ao W];unfold cO gh;rw[h]
def cU.none{n:Nat}:cU n .none:=⟨rfl,va _⟩
def Ly{f:Nat->Int->PyData}{n:Nat}{y:m9}(h:∀r,cU n (f y.1 r)):cU n (eI f y):=by
 unfold eI;split
 .exact h _
 .exact cU.none
def Dd{n:Nat}{a b:PyData}(c:cU n a)(d:cU n b):cU (n+1) (.tuple [a,b]):=cU.tup (forall_mem_cons.mpr ⟨c,forall_mem_cons.mpr ⟨d,λj h=>nomatch h⟩⟩)
def LZ{st:L5}(W:eE ls ps):∀{i:Nat} {t:Int},cU (i+1) (cO ls ps gs st i t):=by
 intro i
 induction i using Nat.strongRecOn with
 | ind i ih=>
  intro t;have c:cU (i+1) (.tuple [.int t]):=(show cU 1 (.tuple [.int t])from cU.tup (n:=0) (forall_mem_cons.mpr ⟨cU.int,λZ h=>nomatch h⟩)).mono ⋯;have b:∀y∈dS gs t (cT ps gs i),cU i (eI (cO ls ps gs st) y):=λy a=>by
   have:=AI W a;exact Ly λr=>(ih y.1 this).mono ⋯
  have g:cU (i+1) (lD (dS gs t (cT ps gs i)) (cO ls ps gs st)):=by
   refine Dd (cU.int.mono (va _)) ?_;cases e:((dS gs t (cT ps gs i)).map (eI (cO ls ps gs st))).getLast? with
   | none=>exact cU.none
   | some d=>
    let⟨y,a,rfl⟩:=vK.mp (List.mem_of_getLast? e);exact b y a
  cases e:ps[i]? with
  | none=>unfold cO gh;rw[e];exact cU.none
  | some p=>
   let⟨l,f⟩:=p;cases f with
   | hold n=>rw[yj e];exact c
   | ring x n=>rw[yq e];exact c
   | rise x v n=>rw[yr e];exact(Dd (n:=0) cU.int cU.int).mono ⋯
   | side xs=>
    rw[Ky W e];exact cU.tup λd j=>by
     let⟨y,a,rfl⟩:=vK.mp j;exact b y a
   | row xs=>rw[Wo W e];exact g
   | again k x=>rw[Y7 W e];exact g
noncomputable def eF(ls:L4)(ps:N1)(gs:L5)(E:L0)(t:Int):PyData:=if gs∘(⇑ps-1)<=t then .none else cO ls ps gs (gK ls ps gs E t) (⇑ps-1) t
def CC{E:L0}{t:Int}(W:eE ls ps)(a:1<=⇑ps):cU 61 (eF ls ps gs E t):=by
 unfold eF;split
 .exact cU.none
 .have:=W.mJ;exact(LZ W).mono ⋯
def KidsP(H:Hp)(xs:List OE)(F:Nat->Int->PyData)(Y:List m9):Prop:=∀y∈Y,DV H (ig xs [some (y.1:Int),y.2.2.2]) (eI F y)
end
def Em{ls:L4}{ps:N1}{gs:L5}{g:L1}(N:Sn ls ps gs g){i:Nat}{t:Int}{nm:Str}{f:Fm}(a:ps[i]?=some (nm,f))(l:0<=t)(c:(∃xs,f = .row xs)\/∃k x,f = .again k x):dS gs t (cT ps gs i)≠[]:=by
 have d:=(vx.mp a).1;have m:=N.g1 i d;obtain⟨j,r,e⟩:∃(j:Nat) (r:List Pc),cT ps gs i=(j,1,0)::r:=by
  unfold cT;rw[a];rcases c with⟨xs,rfl⟩ | ⟨k,x,rfl⟩
  .cases ei:cK ps (.row xs)with
   | nil=>
    have h:=(N.s.ln i _ a).2 0 (by show(0:Int)=_;dsimp only;rw[ei];rfl);lia
   | cons j r=>
    refine⟨j,dn gs r (0+gs∘j),?_⟩;show dn gs (cK ps (.row xs)) 0=_;rw[ei];rfl
  .exact⟨_,_,rfl⟩
 rw[e];unfold dS;have b:dD gs t (j,1,0)=some (j,0,ov gs t (j,1,0),if ov gs t (j,1,0)<1 then some (t-0-ov gs t (j,1,0)*gs∘j)else none):=by
  unfold dD;rw[vd l]
 rw[filterMap_cons,b];exact λz=>nomatch z
def wh{C G:Prop}(a:C->G)(b:(C->G)->G):G:=b a
def HP{a:Type}{l:List a}{d:a}(h:l≠[]):∃x,l.getLast?=some x/\l[⇑l-1]?=some x:=by
 refine⟨l.getLast h,List.getLast?_eq_some_getLast h,?_⟩;rw[<-List.getLast?_eq_getElem?];exact List.getLast?_eq_some_getLast h
theorem B6{H:Hp}:∀{xs:N2} {ds:List PyData} {v:V} {d:PyData},fW H xs ds->DV H v d->fW H (xs++[v]) (ds++[d])
 | _,_,_,_,.nil,k=>.cons k .nil
 | _,_,_,_,.cons a r,k=>.cons a (B6 r k)
theorem DZ{H:Hp}:∀{xs:N2} {ds:List PyData} {i:Nat} {d:PyData},fW H xs ds->ds[i]?=some d->∃v,xs[i]?=some v/\DV H v d
 | _,_,i,_,.nil,h=>by simp at h
 | _,_,0,_,.cons a r,h=>by
  simp at h;subst h;exact⟨_,rfl,a⟩
 | _,_,i+1,_,.cons a r,h=>by
  let⟨v,b,c⟩:=DZ r #v[h];exact⟨v,#v[b],c⟩
theorem uH{H:Hp}:∀{xs:N2} {ds:List PyData},fW H xs ds->⇑xs=⇑ds
 | _,_,.nil=>rfl
 | _,_,.cons _ r=>by rw[vQ,vQ,uH r]
inductive g7(P:Program)(w:World)(C:Addr)(vs:N2)(H:Hp)(Q:VK)(xk:XK):Prop
 | mk (a l d:Addr) (z:Sa) (ls:L4) (ps:N1) (gs:L5) (hs:L1) (E:L0) (st:L5) (xs:List OE) (i:Nat) (t:Int) (_:vs=[.ref a,.ref l,.ref d,.int (i:Nat),.int t]) (_:cV C H a z ls ps gs E) (_:Sn ls ps gs hs) (_:H l=some (.lst (st.map V.int))) (_:⇑st=⇑ls) (_:hL P w H d xs) (_:i<⇑ps) (_:0<=t) (_:t<gs∘i) (_:KidsP H xs (cO ls ps gs st) (dS gs t (cT ps gs i))) (_:∀(v:V) (H':Hp),cj H H'->DV H' v (cO ls ps gs st i t)->Q v H'):g7 P w C vs H Q xk
inductive g6(C:Addr)(vs:N2)(H:Hp)(Q:VK)(xk:XK):Prop
 | mk (a:Addr) (z:Sa) (ls:L4) (ps:N1) (gs:L5) (hs:L1) (E:L0) (t:Int) (_:vs=[.ref a,.int t]) (_:cV C H a z ls ps gs E) (_:Sn ls ps gs hs) (_:0<=t) (_:t<=gs∘(⇑ps-1)) (_:∀(v:V) (H':Hp),cj H H'->DV H' v (eF ls ps gs E t)->Q v H'):g6 C vs H Q xk
noncomputable def lz(st:Addr)(L t:Int):List (Str×V):=cF "now" (.int t) (cF "last" (.int L) (cF "stage" (.ref st) []))
def kG{st:Addr}{L t:Int}:(lz st L t).lookup ("stage" : Str)=↥st:=(Jq ∅).trans ((Jq ∅).trans Zq)
def wg{st:Addr}{L t:Int}:(lz st L t).lookup ("last" : Str)= ~~~L:=(Jq ∅).trans Zq
def ye{st:Addr}{L t:Int}:(lz st L t).lookup ("now" : Str)= ~~~t:=Zq
def Ca{st:Addr}{L t u:Int}:cF "now" (.int u) (lz st L t)=lz st L u:=by
 have a:¬(("stage" : Str) = "now"):=by trivial
 have b:¬(("last" : Str) = "now"):=by trivial
 have c:¬(("stage" : Str) = "last"):=by trivial
 unfold lz;simp only[cF,if_neg a,if_neg b,if_neg c,if_true]
def qw{st:Addr}{L t:Int}{m:Str}(a:¬m = "now")(b:¬m = "last")(c:¬m = "stage"):(lz st L t).lookup m=none:=(Jq a).trans ((Jq b).trans ((Jq c).trans rfl))
structure dU(CM CS:Addr)(H:Hp)(m st:Addr)(z:Sa)(ls:L4)(ps:N1)(gs:L5)(E:L0)(t:Int):Prop where
 ob:∃dx,H m=some (.ins CM dx (lz st (gs∘(⇑ps-1)) t))
 sg:cV CS H st z ls ps gs E
 ne:m≠st
def cV.but{o:Addr}{H H':Hp}{m st:Addr}{z:Sa}{ls:L4}{ps:N1}{gs:L5}{E:L0}{C r:Addr}{s:List (Str×V)}(l:H m=some (.ins C r s))(t:m≠st)(A:cV o H st z ls ps gs E)(k:∀c u,c≠m->H c=some u->H' c=some u):cV o H' st z ls ps gs E:=by
 have n:∀{c:Addr} {f:N2},H c=some (.tup f)->H' c=some (.tup f):=λh=>k _ _ (λz=>by rw[z,l]at h;cases h) h
 have d:∀{c:Addr} {f:N2},H c=some (.lst f)->H' c=some (.lst f):=λh=>k _ _ (λz=>by rw[z,l]at h;cases h) h
 refine⟨A.ob.imp λr h=>k _ _ (Ne.symm t) h,k _ _ (λz=>by have:=A.hd;rw[z,l]at this;cases this) A.hd,d A.hf,d A.ho,cn.mono A.fo λa p h=>WW.mpr (lI.eJ (λZ Z e=>n e) (WW.mp h)),d A.hs,d A.hl,A.el,cn.mono A.ea λa e ⟨g,i,j⟩=>⟨g,d i,cn.mono j λb q h=>n h⟩,A.eo,d A.hp,cn.mono A.pa λa e ⟨g,i,j⟩=>⟨g,d i,cn.mono j λb q h=>n h⟩⟩
def dU.same{a b:Addr}{H H':Hp}{m st:Addr}{z:Sa}{ls:L4}{ps:N1}{gs:L5}{E:L0}{t:Int}(A:dU a b H m st z ls ps gs E t)(s:cj H H'):dU a b H' m st z ls ps gs E t:=⟨A.ob.imp λc h=>s _ _ h,A.sg.same s,A.ne⟩
def dU.but{a b:Addr}{H H':Hp}{m n st:Addr}{z:Sa}{ls:L4}{ps:N1}{gs:L5}{E:L0}{t:Int}{C d:Addr}{e:List (Str×V)}(A:dU a b H m st z ls ps gs E t)(f:H n=some (.ins C d e))(g:m≠n)(i:n≠st)(k:∀c u,c≠n->H c=some u->H' c=some u):dU a b H' m st z ls ps gs E t:=⟨A.ob.imp λd h=>k _ _ g h,A.sg.but f i k,A.ne⟩
inductive iP(CM CS:Addr)(vs:N2)(H:Hp)(Q:VK)(xk:XK):Prop
 | mk (m st:Addr) (z:Sa) (ls:L4) (ps:N1) (gs:L5) (hs:L1) (E:L0) (t:Int) (_:vs=[.ref m]) (_:dU CM CS H m st z ls ps gs E t) (_:Sn ls ps gs hs) (_:0<=t) (_:t<gs∘(⇑ps-1)) (_:∀(l:Addr) (H':Hp),(∀c u,c≠m->H c=some u->H' c=some u)->H l=none->dU CM CS H' m st z ls ps gs E (t+1)->H' l=some (.lst ((eW ps gs (t+1)).map V.str))->Q (.ref l) H'):iP CM CS vs H Q xk
inductive fR(CM CS:Addr)(vs:N2)(H:Hp)(Q:VK)(xk:XK):Prop
 | mk (m st:Addr) (z:Sa) (ls:L4) (ps:N1) (gs:L5) (E:L0) (t b:Int) (_:vs=[.ref m,.int b]) (_:dU CM CS H m st z ls ps gs E t) (_:0<=b) (_:b<=gs∘(⇑ps-1)) (_:∀(H':Hp),(∀c u,c≠m->H c=some u->H' c=some u)->dU CM CS H' m st z ls ps gs E b->Q .de H'):fR CM CS vs H Q xk
inductive fO(CM CS:Addr)(vs:N2)(H:Hp)(Q:VK)(xk:XK):Prop
 | mk (m st:Addr) (z:Sa) (ls:L4) (ps:N1) (gs:L5) (hs:L1) (E:L0) (t:Int) (_:vs=[.ref m]) (_:dU CM CS H m st z ls ps gs E t) (_:Sn ls ps gs hs) (_:0<=t) (_:t<=gs∘(⇑ps-1)) (_:∀(l:Addr) (H':Hp),cj H H'->H l=none->H' l=some (.lst ((cQ ls ps gs E t).map V.int))->⇑(cQ ls ps gs E t)=⇑ls->Q (.ref l) H'):fO CM CS vs H Q xk
inductive iO(CM CS:Addr)(vs:N2)(H:Hp)(Q:VK)(xk:XK):Prop
 | mk (m st:Addr) (z:Sa) (ls:L4) (ps:N1) (gs:L5) (hs:L1) (E:L0) (t:Int) (_:vs=[.ref m]) (_:dU CM CS H m st z ls ps gs E t) (_:Sn ls ps gs hs) (_:0<=t) (_:t<=gs∘(⇑ps-1)) (_:∀(v:V) (H':Hp),cj H H'->DV H' v (eF ls ps gs E t)->Q v H'):iO CM CS vs H Q xk
inductive fj(CM CS:Addr)(vs:N2)(H:Hp)(Q:VK)(xk:XK):Prop
 | mk (m st:Addr) (z:Sa) (ls:L4) (ps:N1) (gs:L5) (hs:L1) (E:L0) (t:Int) (_:vs=[.ref m]) (_:dU CM CS H m st z ls ps gs E t) (_:Sn ls ps gs hs) (_:0<=t) (_:t<=gs∘(⇑ps-1)) (_:∀(r l:Addr) (v:V) (H':Hp),cj H H'->H' r=some (.tup [.int t,.ref l,v])->H' l=some (.tup ((cQ ls ps gs E t).map V.int))->⇑(cQ ls ps gs E t)=⇑ls->DV H' v (eF ls ps gs E t)->Q (.ref r) H'):fj CM CS vs H Q xk
noncomputable def eV(ls:L4)(ps:N1)(gs:L5)(E:L0)(t:Int):PyData:=.tuple [.int t,.tuple ((cQ ls ps gs E t).map PyData.int),eF ls ps gs E t]
def yL{H:Hp}{ls:L4}{ps:N1}{gs:L5}{E:L0}{t:Int}{r l:Addr}{v:V}(a:H r=some (.tup [.int t,.ref l,v]))(b:H l=some (.tup ((cQ ls ps gs E t).map V.int)))(c:DV H v (eF ls ps gs E t)):DV H (.ref r) (eV ls ps gs E t):=
 .tup a (.cons (.int _) (.cons (.tup b (Y2 _)) (.cons c .nil)))
def Cm{n:Nat}(ks:L5):cU (n+1) (.tuple (ks.map PyData.int)):=(cU.tup (n:=0) λd a=>by
 let⟨i,j,rfl⟩:=vK.mp a;exact cU.int).mono ⋯
def GL{n:Nat}(ks:L5):cU (n+1) (.list (ks.map PyData.int)):=(cU.lst (n:=0) λd a=>by
 let⟨i,j,rfl⟩:=vK.mp a;exact cU.int).mono ⋯
def W3{ls:L4}{ps:N1}{gs:L5}{E:L0}{t:Int}(W:eE ls ps)(a:1<=⇑ps):cU 62 (eV ls ps gs E t):=
 cU.tup (n:=61) (forall_mem_cons.mpr ⟨cU.int.mono (va _),forall_mem_cons.mpr ⟨Cm _,forall_mem_cons.mpr ⟨CC W a,λj h=>nomatch h⟩⟩⟩)
def B7{ls:L4}{ps:N1}{E F:L0}(W:eE ls ps)(r:⇑E=⇑ps)(s:⇑F=⇑ps)(n:dF ls ps E)(o:dF ls ps F):F=E:=by
 have d:∀i,i<⇑ps->F.getD i []=E.getD i []:=by
  intro i
  induction i using Nat.strongRecOn with
  | ind i ih=>
   intro p;have c:ps[i]?=some ps[i]:=vz p;have g:E[i]?=some (E.getD i []):=by rw[vy,vz ⋯];rfl
   have h:F[i]?=some (F.getD i []):=by rw[vy,vz ⋯];rfl
   let⟨a,b⟩:=n i _ _ c g;let⟨e,f⟩:=o i _ _ c h;refine Di e a λx v=>(f x v).trans (Iff.trans ?_ (b x v).symm)
   unfold i3;have k:(cK ps ps[i].2).map (λj=>F.getD j [])=(cK ps ps[i].2).map λj=>E.getD j []:=map_congr_left λj q=>by
    have:=W.cI c q;exact ih j this ⋯
   rw[Cj,Cj,k]
 refine ext_getElem ⋯ λi l m=>?_
 have:=d i ⋯;rw[vy,vy,vz l,vz m]at this;exact this
noncomputable def iU(gs:L5):L6->Int->Nat×Int
 | [],t=>(0,t)
 | j::r,t=>if gs∘j<=t then((iU gs r (t-gs∘j)).1+1,(iU gs r (t-gs∘j)).2)else(0,t)
section
variable{ls:L4}{ps:N1}{gs:L5}{hs:L1}{E:L0}
theorem EN:∀{is:L6} {t:Int},0<=t->t<(is.map λj=>gs∘j).sum->∃j,is[(iU gs is t).1]?=some j/\0<=(iU gs is t).2/\(iU gs is t).2<gs∘j
 | [],t,h0,h1=>by
  have:t<0:=h1;lia
 | j::r,t,h0,h1=>by
  rw[uw,sum_cons]at h1;unfold iU;split
  .rename_i c;exact EN (is:=r) ⋯ ⋯
  .exact⟨j,rfl,h0,by dsimp only;lia⟩
theorem xm{t:Int}:∀{qs:List Pc},(∀q∈qs,t<q.2.2)->dS gs t qs=[]
 | [],_=>rfl
 | q::r,h=>by
  have b:=h q vq;unfold dS;rw[filterMap_cons];have:dD gs t q=none:=vc ⋯;rw[this];exact xm λx a=>h x (vp _ a)
def KA{t b:Int}{j:Nat}(a:1<=gs∘j)(h:b<=t):dD gs t (j,1,b)=some (if gs∘j<=t-b then(j,b,1,none)else(j,b,0,some (t-b))):=by
 unfold dD;rw[vd (show((j,1,b):Pc).2.2<=t from h)];have o:ov gs t (j,1,b)=if gs∘j<=t-b then 1 else 0:=by
  unfold ov;by_cases c:gs∘j<=t-b
  .rw[vd c];have:1<=(t-b)/gs∘j:=by
    have:=Int.ediv_le_ediv (show 0<gs∘j by lia) c;rw[Int.ediv_self ⋯]at this;exact this
   dsimp only;split
   .rfl
   .lia
  .rw[vc c];have:(t-b)/gs∘j=0:=Int.ediv_eq_zero_of_lt ⋯ ⋯;dsimp only;rw[this,vc nofun]
 rw[o];by_cases c:gs∘j<=t-b
 .rw[vd c,vd c,vc (show¬(1:Int)<((j,1,b):Pc).2.1 from Int.lt_irrefl 1)]
 .rw[vc c,vc c,vd (show(0:Int)<((j,1,b):Pc).2.1 from Int.zero_lt_one)];dsimp only;rw[show t-b-0*gs∘j=t-b by lia]
def Lu{t b:Int}{j:Nat}{r:L6}(a:∀k∈j::r,1<=gs∘k/\gs∘k<=10^60)(h:b<=t):dS gs t (dn gs (j::r) b)=if gs∘j<=t-b then(j,b,1,none)::dS gs t (dn gs r (b+gs∘j))else[(j,b,0,some (t-b))]:=by
 show((j,1,b)::dn gs r (b+gs∘j)).filterMap (dD gs t)=_;rw[filterMap_cons,KA (a j vq).1 h];by_cases c:gs∘j<=t-b
 .rw[vd c,vd c];rfl
 .rw[vc c,vc c];have:dS gs t (dn gs r (b+gs∘j))=[]:=xm λq e=>by
   have:=(YL (λk d=>⟨by have:=(a k (vp _ d)).1;lia,(a k (vp _ d)).2⟩) e).1;lia
  show _::dS gs t _=_;rw[this]
theorem DR(F:Nat->Int->PyData):∀{is:L6} {b t:Int},(∀k∈is,1<=gs∘k/\gs∘k<=10^60)->b<=t->t-b<(is.map λj=>gs∘j).sum->∀j,is[(iU gs is (t-b)).1]?=some j->
  ((dS gs t (dn gs is b)).map λy=>y.2.2.1).sum=((iU gs is (t-b)).1:Int)/\((dS gs t (dn gs is b)).map (eI F)).getLast?=some (F j (iU gs is (t-b)).2)
 | [],b,t,_,h,h1,_,_=>by
  have:t-b<0:=h1;lia
 | i::r,b,t,hg,h,h1,j,hj=>by
  rw[uw,sum_cons]at h1;rw[Lu hg h];by_cases c:gs∘i<=t-b
  .rw[vd c];have e:iU gs (i::r) (t-b)=((iU gs r (t-(b+gs∘i))).1+1,(iU gs r (t-(b+gs∘i))).2):=by
    show(if _ then _ else _)=_;rw[vd c,show t-b-gs∘i=t-(b+gs∘i) by lia]
   rw[e]at hj|-;let⟨s,l⟩:=DR F (is:=r) (b:=b+gs∘i) (t:=t) (λk a=>hg k (vp _ a)) ⋯ ⋯ j hj;rw[uw,sum_cons,s,uw];refine⟨by dsimp only;lia,?_⟩;rw[List.getLast?_cons,l];rfl
  .rw[vc c];have e:iU gs (i::r) (t-b)=(0,t-b):=vc c;rw[e]at hj|-;cases hj;exact⟨rfl,rfl⟩
end
section
variable{ls:L4}{ps:N1}{gs:L5}{hs:L1}
theorem AR:∀{is:L6} {t:Int},((is.take (iU gs is t).1).map λj=>gs∘j).sum+(iU gs is t).2=t
 | [],t=>by show(0:Int)+t=t;lia
 | j::r,t=>by
  unfold iU;split
  .have:=AR (is:=r) (t:=t-gs∘j);dsimp only;rw[List.take_succ_cons,uw,sum_cons];lia
  .show(0:Int)+t=t;lia
def xh(N:Sn ls ps gs hs){i:Nat}{nm:Str}{xs:L8}(a:ps[i]?=some (nm,.row xs)){t:Int}(d:0<=t)(o:t<gs∘i):∃j,(cK ps (.row xs))[(iU gs (cK ps (.row xs)) t).1]?=some j/\0<=(iU gs (cK ps (.row xs)) t).2/\(iU gs (cK ps (.row xs)) t).2<gs∘j/\
  ∀S,cO ls ps gs S i t = .tuple [.int ((iU gs (cK ps (.row xs)) t).1:Int),cO ls ps gs S j (iU gs (cK ps (.row xs)) t).2]:=by
 have m:=(vx.mp a).1;have W:=N.s.w;have e:cT ps gs i=dn gs (cK ps (.row xs)) 0:=by unfold cT;rw[a];rfl
 have n:gs∘i=((cK ps (.row xs)).map λj=>gs∘j).sum:=((N.s.ln i _ a).2 _ rfl).symm;have f:∀k∈cK ps (.row xs),1<=gs∘k/\gs∘k<=10^60:=λk g=>N.g (by have:=W.cI a g;lia)
 let⟨j,c,h,l⟩:=EN (gs:=gs) (is:=cK ps (.row xs)) d ⋯;refine⟨j,c,h,l,λS=>?_⟩;have z:t-0=t:=⋯
 have s:=DR (gs:=gs) (cO ls ps gs S) (b:=0) (t:=t) f d (by rw[z];lia) j (by rw[z];exact c);rw[z]at s;rw[Wo W a,e];unfold lD;rw[s.1,s.2];rfl
def Gq(N:Sn ls ps gs hs){i:Nat}{nm x:Str}{k:Int}(a:ps[i]?=some (nm,.again k x)){t:Int}(b:0<=t)(D:t<gs∘i):∃j,cK ps (.again k x)=[j]/\gs∘i=k*gs∘j/\j<i/\1<=gs∘j/\
  ∀F:Nat->Int->PyData,((dS gs t (cT ps gs i)).map λy=>y.2.2.1).sum=t/gs∘j/\((dS gs t (cT ps gs i)).map (eI F)).getLast?=some (F j (t%gs∘j)):=by
 have A:=(vx.mp a).1;have W:=N.s.w;obtain⟨j,g⟩:∃j,cK ps (.again k x)=[j]:=⟨_,rfl⟩
 have n:j<i:=W.cI a (j:=j) (by simp_all);have m:k*gs∘j=gs∘i:=(N.s.ln i _ a).2 _ ⟨gs∘j,by simp_all,rfl⟩;let⟨d,l⟩:=N.g (show j<⇑ps by lia);have f:cT ps gs i=(j,1,0)::(if 1<k then[(j,k-1,gs∘j)]else[]):=by unfold cT;rw[a];show fh gs (.again k x) (cK ps (.again k x))=_;rw[g];rfl
 refine⟨j,g,m.symm,n,d,λF=>?_⟩;have C:t/gs∘j<k:=Int.ediv_lt_of_lt_mul ⋯ ⋯;have z:=Int.emod_add_mul_ediv t (gs∘j);have v:gs∘j*(t/gs∘j)=t/gs∘j*gs∘j:=Int.mul_comm ..;by_cases c:gs∘j<=t
 .have w:1<=t/gs∘j:=by
   have:=Int.ediv_le_ediv (show 0<gs∘j by lia) c;rw[Int.ediv_self ⋯]at this;exact this
  have p:1<k:=⋯
  have h:(t-gs∘j)/gs∘j=t/gs∘j-1:=by
   have:=Int.add_mul_ediv_right t (-1) (show gs∘j≠0 by lia);rw[show t-gs∘j=t + -1*gs∘j by lia,this];lia
  have o:ov gs t (j,k-1,gs∘j)=t/gs∘j-1:=by
   unfold ov;dsimp only;rw[h,vc ⋯]
  have r:t-gs∘j-(t/gs∘j-1)*gs∘j=t%gs∘j:=by
   rw[Int.sub_mul,Int.one_mul];lia
  have e:dS gs t (cT ps gs i)=[(j,0,1,none),(j,gs∘j,t/gs∘j-1,some (t%gs∘j))]:=by
   rw[f,vd p];show((j,1,0)::[(j,k-1,gs∘j)]).filterMap (dD gs t)=_;have u:dD gs t (j,k-1,gs∘j)=some (j,gs∘j,t/gs∘j-1,some (t%gs∘j)):=by
    unfold dD;rw[vd (show((j,k-1,gs∘j):Pc).2.2<=t from c),o,vd (show t/gs∘j-1<((j,k-1,gs∘j):Pc).2.1 by show _<k-1;lia)];dsimp only;rw[r]
   rw[filterMap_cons,KA d b,Int.sub_zero,vd c,filterMap_cons,u];rfl
  rw[e];refine⟨?_,rfl⟩;show(1:Int)+((t/gs∘j-1)+0)=_;lia
 .have e:dS gs t (cT ps gs i)=[(j,0,0,some t)]:=by
   rw[f];have s:dS gs t (if 1<k then[(j,k-1,gs∘j)]else[])=[]:=xm λq B=>by
    simp_all
   show((j,1,0)::(if 1<k then[(j,k-1,gs∘j)]else[])).filterMap (dD gs t)=_;rw[filterMap_cons,KA d b,Int.sub_zero,vc c];show _::dS gs t _=_;rw[s]
  rw[e,Int.ediv_eq_zero_of_lt b ⋯,Int.emod_eq_of_lt b ⋯];exact⟨rfl,rfl⟩
def kQ(N:Sn ls ps gs hs){i:Nat}{nm x:Str}{k:Int}(b:ps[i]?=some (nm,.again k x)){t:Int}(g:0<=t)(h:t<gs∘i):∃j,cK ps (.again k x)=[j]/\gs∘i=k*gs∘j/\j<i/\1<=gs∘j/\
  ∀S,cO ls ps gs S i t = .tuple [.int (t/gs∘j),cO ls ps gs S j (t%gs∘j)]:=by
 let⟨j,c,d,e,f,a⟩:=Gq N b g h;refine⟨j,c,d,e,f,λS=>?_⟩;rw[Y7 N.s.w b];unfold lD;rw[(a (cO ls ps gs S)).1,(a (cO ls ps gs S)).2];rfl
theorem Co{t:Int}(b:0<=t):∀is:L6,(∀j∈is,1<=gs∘j)->(dS gs t (is.map λj=>(j,1,0)))=is.map λj=>if gs∘j<=t then(j,0,1,none)else(j,0,0,some t)
 | [],_=>rfl
 | a::r,h=>by
  show((a,1,0)::r.map λj=>(j,1,0)).filterMap (dD gs t)=_;rw[filterMap_cons,KA (h a vq) b,Int.sub_zero];show _::dS gs t (r.map λj=>(j,1,0))=_;rw[Co b r λj c=>h j (vp _ c)];rfl
def wC(N:Sn ls ps gs hs){i:Nat}{nm:Str}{xs:L8}(a:ps[i]?=some (nm,.side xs)){t:Int}(d:0<=t)(S:L5):cO ls ps gs S i t = .tuple ((cK ps (.side xs)).map λj=>if gs∘j<=t then .none else cO ls ps gs S j t):=by
 have e:=(vx.mp a).1;have W:=N.s.w;have c:cT ps gs i=(cK ps (.side xs)).map λj=>(j,1,0):=by unfold cT;rw[a];rfl
 rw[Ky W a,c,Co d _ λj b=>(N.g (by have:=W.cI a b;lia)).1,uz];congr 1;refine map_congr_left λj b=>?_
 show eI (cO ls ps gs S) (if gs∘j<=t then(j,0,1,none)else(j,0,0,some t))=_;split<;>rfl
theorem Ak:∀(l:L5),l≠[]->∃x∈l,∀y∈l,y<=x
 | [],h=>ub rfl h
 | [x],_=>⟨x,vq,λy d=>by rw[vo.mp d];exact vA _⟩
 | x::y::r,_=>by
  let⟨m,b,h⟩:=Ak (y::r) (λz=>nomatch z);by_cases c:m<=x
  .exact⟨x,vq,λz a=>by
    rcases mem_cons.mp a with rfl | a
    .exact vA _
    .exact Int.le_trans (h z a) c⟩
  .exact⟨m,vp _ b,λz a=>by
    rcases mem_cons.mp a with rfl | a
    .lia
    .exact h z a⟩
def LX(N:Sn ls ps gs hs):∀{i:Nat},i<⇑ps->∀{t t':Int} {S w:L5},0<=t->t<gs∘i->0<=t'->t'<gs∘i->cO ls ps gs S i t=cO ls ps gs w i t'->t=t':=by
 intro i
 induction i using Nat.strongRecOn with
 | ind i ih=>
  intro I t t' S w r E u F h;have W:=N.s.w;cases e:ps[i]? with
  | none=>rw[vz I]at e;cases e
  | some p=>
   let⟨U,f⟩:=p;cases f with
   | hold n=>
    rw[yj e,yj e]at h;injection h with h;injection h with h;injection h
   | ring x n=>
    rw[yq e,yq e]at h;injection h with h;injection h with h;injection h
   | rise x v n=>
    rw[yr e,yr e]at h;injection h with h;injection h with h;injection h
   | row xs=>
    let⟨j,g,P,Q,q⟩:=xh N e r E;let⟨K,d,A,B,z⟩:=xh N e u F;rw[q,z]at h;injection h with h;injection h with h1 c;injection h1 with h1;injection c with c;have s:=AR (gs:=gs) (is:=cK ps (.row xs)) (t:=t);have R:=AR (gs:=gs) (is:=cK ps (.row xs)) (t:=t');have O:(iU gs (cK ps (.row xs)) t).1=(iU gs (cK ps (.row xs)) t').1:=⋯
    rw[<-O]at d R;rw[g]at d;cases d;have y:j<i:=W.cI e (vm g);have:=ih j y ⋯ P Q A B c;lia
   | again k x=>
    let⟨j,H,G,y,T,q⟩:=kQ N e r E;let⟨K,o,Z,Z,Z,z⟩:=kQ N e u F;rw[H]at o;cases o;rw[q,z]at h;injection h with h;injection h with h1 c;injection h1 with h1;injection c with c;have:=ih j y ⋯ (ve _ ⋯) (vf _ ⋯) (ve _ ⋯) (vf _ ⋯) c;have a:=Int.emod_add_mul_ediv t (gs∘j);have b:=Int.emod_add_mul_ediv t' (gs∘j);rw[this,h1]at a;lia
   | side xs=>
    rw[wC N e r,wC N e u]at h;injection h with h;have M:(cK ps (.side xs)).map (λj=>gs∘j)≠[]:=(N.s.ln i _ e).1;let⟨m,D,L⟩:=Ak _ M;have G:=(N.s.ln i _ e).2 m ⟨D,L⟩;let⟨j,g,rfl⟩:=vK.mp D;let⟨n,J⟩:=List.getElem?_of_mem g;have c:=congrArg (λl=>l[n]?) h;rw[vv,vv,J]at c;have C:(if gs∘j<=t then PyData.none else cO ls ps gs S j t)=if gs∘j<=t' then PyData.none else cO ls ps gs w j t':=vL c
    rw[vc ⋯,vc ⋯]at C;exact ih j (W.cI e g) (by have:=W.cI e g;lia) r ⋯ u ⋯ C
def Ma(N:Sn ls ps gs hs){i:Nat}(hi:i<⇑ps){t:Int}{S:L5}:∃ds,cO ls ps gs S i t = .tuple ds:=by
 have W:=N.s.w;cases e:ps[i]? with
 | none=>rw[vz hi]at e;cases e
 | some p=>
  let⟨a,f⟩:=p;cases f with
  | hold n=>exact⟨_,yj e⟩
  | ring x n=>exact⟨_,yq e⟩
  | rise x v n=>exact⟨_,yr e⟩
  | row xs=>exact⟨_,Wo W e⟩
  | again k x=>exact⟨_,Y7 W e⟩
  | side xs=>exact⟨_,Ky W e⟩
def HJ{E:L0}(N:Sn ls ps gs hs){t t':Int}(b:0<=t)(j:t<=gs∘(⇑ps-1))(f:0<=t')(k:t'<=gs∘(⇑ps-1))(h:eF ls ps gs E t=eF ls ps gs E t'):t=t':=by
 have i:=N.ne;unfold eF at h;have a:∀{s:Int} {S:L5},cO ls ps gs S (⇑ps-1) s≠.none:=λ{s S} z=>by
  let⟨g,e⟩:=Ma N (show ⇑ps-1<⇑ps by lia) (t:=s) (S:=S);rw[e]at z;cases z
 by_cases c:gs∘(⇑ps-1)<=t
 .by_cases d:gs∘(⇑ps-1)<=t'
  .lia
  .rw[vd c,vc d]at h;exact ub h.symm a
 .by_cases d:gs∘(⇑ps-1)<=t'
  .rw[vc c,vd d]at h;exact ub h a
  .rw[vc c,vc d]at h;exact LX N ⋯ b ⋯ f ⋯ h
end
noncomputable def hZ:Nat->PyData->Prop
 | 0,_=>False
 | n+1,d=>∃ds,d = .tuple ds/\⇑ds<=60/\(∀x∈ds,(∃i,x = .int i)\/x = .none\/hZ n x)/\((∃x∈ds,hZ n x)\/∃i r,ds = .int i::r)
theorem hZ.up:∀{n m:Nat} {d:PyData},n<=m->hZ n d->hZ m d
 | 0,_,_,_,h=>h.elim
 | n+1,0,_,h,_=>ub h (Nat.not_succ_le_zero _)
 | n+1,m+1,d,h,⟨ds,e,l,a,b⟩=>⟨ds,e,l,λx c=>(a x c).imp id λz=>z.imp id λz=>hZ.up (Nat.le_of_succ_le_succ h) z,b.imp (λ⟨x,c,z⟩=>⟨x,c,hZ.up (Nat.le_of_succ_le_succ h) z⟩) id⟩
def hZ.tup{n:Nat}{d:PyData}(h:hZ n d):∃ds,d = .tuple ds:=by
 cases n with
 | zero=>exact h.elim
 | succ n=>let⟨ds,e,j⟩:=h;exact⟨ds,e⟩
theorem hZ.ES:∀{n:Nat} {d:PyData},hZ n d->cU n d
 | 0,_,h=>h.elim
 | n+1,d,⟨ds,e,l,a,b⟩=>by
  subst e;refine cU.tup λx c=>?_
  rcases a x c with⟨i,rfl⟩ | rfl | h
  .exact cU.int.mono (va _)
  .exact cU.none
  .exact hZ.ES h
theorem WS:∀{ds es:List PyData},(∀x∈ds,∀y∈es,PyData.eqv x y=true->x=y)->PyData.eqvAll ds es=true->ds=es
 | [],[],_,_=>rfl
 | [],_::_,_,h=>by simp[PyData.eqvAll]at h
 | _::_,[],_,h=>by simp[PyData.eqvAll]at h
 | x::r,y::s,k,h=>by
  rw[PyData.eqvAll,Bool.and_eq_true]at h;rw[k x vq y vq h.1,WS (λa c b d=>k a (vp _ c) b (vp _ d)) h.2]
theorem Qc:∀{xs ys:List PyData} {i:Nat} {x y:PyData},xs[i]?=some x->ys[i]?=some y->PyData.eqv x y=false->PyData.eqvAll xs ys=false
 | [],_,i,_,_,h,_,_=>by simp at h
 | _::_,[],i,_,_,_,h,_=>by simp at h
 | a::r,b::s,0,x,y,h1,h2,e=>by
  simp at h1 h2;subst h1 h2;rw[PyData.eqvAll,e,Bool.false_and]
 | a::r,b::s,i+1,x,y,h1,h2,e=>by
  rw[PyData.eqvAll,Qc (i:=i) #v[h1] #v[h2] e,Bool.and_false]
def C1:∀{n:Nat} {d e:PyData},(d = .none\/hZ n d)->(e = .none\/hZ n e)->PyData.eqv d e=true->d=e:=by
 intro n
 induction n with
 | zero=>
  rintro d e (rfl | h) (rfl | k) z
  .rfl
  .exact k.elim
  .exact h.elim
  .exact h.elim
 | succ n ih=>
  rintro d e (rfl | h) (rfl | k) z
  .rfl
  .let⟨g,rfl,_⟩:=k;rw[PyData.eqv]at z;cases z
  .let⟨l,rfl,_⟩:=h;rw[PyData.eqv]at z;cases z
  .let⟨l,rfl,_,a,_⟩:=h;let⟨g,rfl,Z,b,Z⟩:=k;rw[PyData.eqv]at z;rw[WS (λx c y f q=>?_) z];rcases a x c with⟨i,rfl⟩ | c
   .rcases b y f with⟨j,rfl⟩ | rfl | f
    .rw[PyData.eqv]at q;rw[eq_of_beq q]
    .rw[PyData.eqv]at q;cases q
    .let⟨g,rfl⟩:=f.tup;rw[PyData.eqv]at q;cases q
   .rcases b y f with⟨j,rfl⟩ | f
    .rcases c with rfl | c
     .rw[PyData.eqv]at q;cases q
     .let⟨g,rfl⟩:=c.tup;rw[PyData.eqv]at q;cases q
    .exact ih c f q
section
variable{ls:L4}{ps:N1}{gs:L5}{hs:L1}{E:L0}
def LY(N:Sn ls ps gs hs){S:L5}:∀{i:Nat},i<⇑ps->∀{t:Int},0<=t->t<gs∘i->hZ (i+1) (cO ls ps gs S i t):=by
 have W:=N.s.w;intro i
 induction i using Nat.strongRecOn with
 | ind i ih=>
  intro y t o u;have g:hZ (i+1) (.tuple [.int t]):=⟨_,rfl,by show 1<=60;decide,λx a=>.inl ⟨t,vo.mp a⟩,.inr ⟨_,_,rfl⟩⟩
  have l:∀{k:Int} {d:PyData},hZ i d->hZ (i+1) (.tuple [.int k,d]):=λ{k d} h=>⟨_,rfl,by show 2<=60;decide,λx a=>by
   rcases mem_cons.mp a with rfl | a
   .exact .inl ⟨_,rfl⟩
   .rw[vo.mp a];exact .inr (.inr h),.inr ⟨_,_,rfl⟩⟩
  obtain⟨p,e⟩:∃p,ps[i]?=some p:=⟨_,vz y⟩
  let⟨F,f⟩:=p;cases f with
  | hold n=>rw[yj e];exact g
  | ring x n=>rw[yq e];exact g
  | rise x v n=>
   rw[yr e];exact⟨_,rfl,by show 2<=60;decide,λx a=>by
    rcases mem_cons.mp a with rfl | a
    .exact .inl ⟨_,rfl⟩
    .rw[vo.mp a];exact .inl ⟨_,rfl⟩,.inr ⟨_,_,rfl⟩⟩
  | row xs=>
   let⟨j,b,B,C,q⟩:=xh N e o u;have r:j<i:=W.cI e (vm b);rw[q];exact l ((ih j r ⋯ B C).up ⋯)
  | again k x=>
   let⟨j,D,w,r,E,q⟩:=kQ N e o u;rw[q];exact l ((ih j r ⋯ (ve _ ⋯) (vf _ ⋯)).up ⋯)
  | side xs=>
   rw[wC N e o];have c:∀j∈cK ps (.side xs),¬gs∘j<=t->hZ i (cO ls ps gs S j t):=λj b h=>by
    have:=W.cI e b;exact(ih j this ⋯ o ⋯).up ⋯
   refine⟨_,rfl,?_,λx a=>?_,.inl ?_⟩
   .rw[vt];have:⇑(cK ps (.side xs))<=8:=by unfold cK;rw[vt];exact(W.f i _ e).2
    lia
   .let⟨j,b,rfl⟩:=vK.mp a;split
    .exact .inr (.inl rfl)
    .exact .inr (.inr (c j b ⋯))
   .have A:(cK ps (.side xs)).map (λj=>gs∘j)≠[]:=(N.s.ln i _ e).1;let⟨m,s,z⟩:=Ak _ A;have w:=(N.s.ln i _ e).2 m ⟨s,z⟩;let⟨j,b,rfl⟩:=vK.mp s;exact⟨_,vK.mpr ⟨j,b,rfl⟩,by rw[vc ⋯];exact c j b ⋯⟩
def xg(N:Sn ls ps gs hs){t:Int}(b:0<=t):eF ls ps gs E t = .none\/hZ 61 (eF ls ps gs E t):=by
 have c:=N.ne;have a:=N.s.w.mJ;unfold eF;split
 .exact .inl rfl
 .exact .inr ((LY N ⋯ b ⋯).up ⋯)
def LW(N:Sn ls ps gs hs){t t':Int}(a:0<=t)(c:t<=gs∘(⇑ps-1))(b:0<=t')(d:t'<=gs∘(⇑ps-1))(h:t≠t'):PyData.eqv (eF ls ps gs E t) (eF ls ps gs E t')=false:=by
 cases z:PyData.eqv (eF ls ps gs E t) (eF ls ps gs E t')with
 | false=>rfl
 | true=>exact ub (HJ N a c b d (C1 (xg N a) (xg N b) z)) h
end
def Hs{n:Nat}{d:PyData}(h:d = .none\/hZ n d):PyData.eqv d (.tuple [d])=false:=by
 cases z:PyData.eqv d (.tuple [d])with
 | false=>rfl
 | true=>
  rcases h with rfl | h
  .rw[PyData.eqv]at z;cases z
  .have:=C1 (n:=n+1) (.inr (h.up (Nat.le_succ _))) (.inr ⟨[d],rfl,by show 1<=60;decide,λx a=>.inr (.inr (by rw[vo.mp a];exact h)),.inl ⟨d,vo.mpr rfl,h⟩⟩) z;have:=congrArg PyData.depth this;rw[PyData.depth,PyData.depthAll,PyData.depthAll]at this;lia
def pY(ls:L4)(ps:N1)(gs:L5)(E:L0)(t:Int)(d:PyData):Prop:=t<0\/gs∘(⇑ps-1)<t\/(0<=t/\t<=gs∘(⇑ps-1)/\PyData.eqv (eV ls ps gs E t) d=false)
def Cq(CM CS NB:Addr):Sp:=λvs H Q xk=>∃(m st:Addr) (z:Sa) (ls:L4) (ps:N1) (gs:L5) (E:L0) (t b:Int),vs=[.ref m,.int b]/\dU CM CS H m st z ls ps gs E t/\(b<0\/gs∘(⇑ps-1)<b)/\xk (.ref NB) none H
def wV(CM CS NP:Addr):Sp:=λvs H Q xk=>∃(bx kt l f:Addr) (hv kv:V) (las das:L7) (ls:L4) (ks:List Dm) (gs:L5) (hs:L1) (E:L0) (t:Int) (d:PyData),vs=[.ref bx,.ref kt]/\H bx=some (.tup [.ref l,.ref f])/\H l=some (.lst (las.map V.ref))/\cn (eU H) las ls/\H f=some (.lst (das.map V.ref))/\hQ H das ks/\j0 ls ks/\Sn ls (eM ls ks) gs hs/\
 H kt=some (.tup [.int t,hv,kv])/\DV H (.ref kt) d/\cU 63 d/\⇑E=⇑(eM ls ks)/\dF ls (eM ls ks) E/\pY ls (eM ls ks) gs E t d/\∀(dd:Option Addr) (H':Hp),cj H H'->xk (.ref NP) dd H'
inductive fS(vs:N2)(H:Hp)(Q:VK)(xk:XK):Prop
 | mk (bx kt l f:Addr) (hv kv:V) (las das:L7) (ls:L4) (ks:List Dm) (gs:L5) (hs:L1) (E:L0) (t:Int) (d:PyData) (_:vs=[.ref bx,.ref kt]) (_:H bx=some (.tup [.ref l,.ref f])) (_:H l=some (.lst (las.map V.ref))) (_:cn (eU H) las ls) (_:H f=some (.lst (das.map V.ref))) (_:hQ H das ks) (_:j0 ls ks) (_:Sn ls (eM ls ks) gs hs) (_:H kt=some (.tup [.int t,hv,kv])) (_:DV H (.ref kt) d) (_:cU 63 d) (_:⇑E=⇑(eM ls ks)) (_:dF ls (eM ls ks) E) (_:pY ls (eM ls ks) gs E t d) (_:∀H',cj H H'->Q (.bl true) H'):fS vs H Q xk
inductive eC(n:Nat)(vs:N2)(H:Hp)(Q:VK)(xk:XK):Prop
 | mk (v:V) (d:PyData) (_:vs=[v]) (_:DV H v d) (_:((d = .none/\n≠0)\/hZ n d)) (_:∀(r:V) (d':PyData) (H':Hp),cj H H'->DV H' r d'->cU n d'->PyData.eqv d d'=false->Q r H'):eC n vs H Q xk
def Cz{vs:N2}{H:Hp}{Q:VK}{E:XK}:¬eC 0 vs H Q E:=λ⟨_,_,_,_,h,_⟩=>h.elim (λz=>z.2 rfl) id
theorem WR{H:Hp}:∀{xs:N2} {ds:List PyData} (k:Nat),fW H xs ds->fW H (xs.take k) (ds.take k)
 | _,_,0,_=>.nil
 | _,_,_+1,.nil=>.nil
 | _,_,k+1,.cons a r=>.cons a (WR k r)
theorem WQ{H:Hp}:∀{xs:N2} {ds:List PyData} (k:Nat),fW H xs ds->fW H (xs.drop k) (ds.drop k)
 | _,_,0,h=>h
 | _,_,_+1,.nil=>.nil
 | _,_,k+1,.cons a r=>WQ k r
def En{a:Type}{xs:List a}{i:Nat}(x:a)(h:i<⇑xs):(xs.take i++[x]++xs.drop (i+1))[i]?=some x:=by
 rw[List.append_assoc,vC (by rw[vi];lia),vi,show i-min i ⇑xs=0 by lia];rfl
def DN{b:Type}{P:b->Prop}{xs:List b}{i:Nat}{x:b}(h:∀y∈xs,P y)(c:P x):∀y∈xs.take i++[x]++xs.drop (i+1),P y:=λy a=>by
 rcases vh.mp a with a | a
 .rcases vh.mp a with a | a
  .exact h y (mem_of_mem_take a)
  .rw[vo.mp a];exact c
 .exact h y (List.mem_of_mem_drop a)
inductive g8(vs:N2)(H:Hp)(Q:VK)(xk:XK):Prop
 | mk (kt lh:Addr) (kv:V) (ls:L4) (ps:N1) (gs:L5) (hs:L1) (E:L0) (t w far:Int) (_:vs=[.ref kt,.int w,.int (gs∘(⇑ps-1)),.int far]) (_:H kt=some (.tup [.int t,.ref lh,kv])) (_:H lh=some (.tup ((cQ ls ps gs E t).map V.int))) (_:⇑(cQ ls ps gs E t)=⇑ls) (_:1<=⇑ls) (_:⇑ls<=8) (_:DV H kv (eF ls ps gs E t)) (_:Sn ls ps gs hs) (_:0<=t) (_:t<=gs∘(⇑ps-1)) (_:0<=w) (_:w<10) (_:0<=far) (_:far<=10^31) (_:∀(r:Addr) (tn:Int) (hv pv:V) (d:PyData) (H':Hp),cj H H'->H' r=some (.tup [.int tn,hv,pv])->DV H' (.ref r) d->cU 63 d->pY ls ps gs E tn d->Q (.ref r) H'):g8 vs H Q xk
inductive gW(CM CS:Addr)(vs:N2)(H:Hp)(Q:VK)(xk:XK):Prop
 | mk (m o st su:Addr) (z y:Sa) (ls:L4) (ps:N1) (gs:L5) (hs:L1) (E:L0) (t:Int) (n:Nat) (_:vs=[.ref m,.ref o,.int n]) (_:dU CM CS H m st z ls ps gs E t) (_:dU CM CS H o su y ls ps gs E t) (_:m≠o) (_:m≠su) (_:o≠st) (_:Sn ls ps gs hs) (_:0<=t) (_:n<=3) (_:t+n<=gs∘(⇑ps-1)) (_:(∀t:Int,∀x∈eW ps gs t,Ws.fG x=true)) (_:∀H',(∀c u,c≠m->c≠o->H c=some u->H' c=some u)->(∃u,dU CM CS H' o su y ls ps gs E u)->Q (.bl true) H'):gW CM CS vs H Q xk
def vM(d:Dm):Prop:=∀x n,d = .ring x n->Ws.fG x=true
theorem D1{lx px:L8}:∀{ps:N1} {st:List Dm×L6},(∀d∈st.1,vM d)->(∀p∈ps,sv p.2)->∀d∈(ps.foldl (dq lx px) st).1,vM d
 | [],_,h,_=>h
 | p::r,st,h,k=>by
  refine D1 (ps:=r) (st:=dq lx px st p) ?_ λq b=>k q (vp _ b)
  unfold dq;dsimp only;split
  .exact h
  .intro d a;rcases vh.mp a with a | a
   .exact h d a
   .rw[vo.mp a];intro x n e;have w:=k p vq;cases f:p.2 with
    | ring y m=>rw[f]at e w;cases e;exact w.1
    | _=>rw[f]at e;cases e
def M4{ls:L4}{ps:N1}{ms:L6}{gs:L5}{t:Int}(B:sq ls ps):∀x∈eW (eM ls (cX (cP ls ps) ms)) gs t,Ws.fG x=true:=λx m=>by
 unfold eW at m;let⟨y,Z,g⟩:=mem_flatMap.mp m;unfold dZ at g;cases e:(eM ls (cX (cP ls ps) ms))[y.1]? with
 | none=>rw[e]at g;nomatch g
 | some p=>
  rw[e]at g;unfold eM at e;rw[vv]at e;let⟨i,r,rfl⟩:=vg.mp e;have o:i<⇑(cX (cP ls ps) ms):=by
   have:=v7.mp (vm r);exact this
  have l:(cX (cP ls ps) ms).getD i (.hold 0)∈cX (cP ls ps) ms:=by
   rw[vy,vz o];exact getElem_mem o
  generalize(cX (cP ls ps) ms).getD i (.hold 0)=d at l g;unfold cX at l;let⟨k,Z,j⟩:=vK.mp l;have w:vM ((cP ls ps).getD k (.hold 0)):=by
   by_cases c:k<⇑(cP ls ps)
   .rw[vy,vz c];exact D1 (ps:=ps) (st:=([],[])) (λZ h=>nomatch h) (λq s=>(B.pn q s).2) _ (getElem_mem c)
   .rw[vy,List.getElem?_eq_none ⋯];exact λZ Z z=>nomatch z
  cases d with
  | ring z n=>
   dsimp only[oI]at g;split at g
   .rw[vo.mp g];refine w z n ?_;cases f:(cP ls ps).getD k (.hold 0)with
    | ring a b=>rw[f]at j;exact j
    | _=>rw[f]at j;cases j
   .nomatch g
  | _=>nomatch g
structure hH(H:Hp)(z:Sa):Prop where
 d:H z.d=none
 f:H z.f=none
 o:H z.o=none
 s:H z.s=none
 l:H z.l=none
 p:H z.p=none
 la:∀a∈z.la,H a=none
 pa:∀a∈z.pa,H a=none
def hH.less{H H':Hp}{z:Sa}(N:hH H' z)(s:cj H H'):hH H z:=
 ⟨none_of s N.d,none_of s N.f,none_of s N.o,none_of s N.s,none_of s N.l,none_of s N.p,λa h=>none_of s (N.la a h),λa h=>none_of s (N.pa a h)⟩
def cV.uF{s:Addr}{g H H':Hp}{c st:Addr}{z:Sa}{ls:L4}{ps:N1}{gs:L5}{E:L0}{xs ys:N2}(A:cV s H st z ls ps gs E)(N:hH g z)(v:g c=some (.lst xs))(t:H c=some (.lst ys))(k:∀b u,b≠c->H b=some u->H' b=some u):cV s H' st z ls ps gs E:=by
 have r:∀{b:Addr} {xs:N2},H b=some (.tup xs)->H' b=some (.tup xs):=λh=>k _ _ (λz=>by rw[z,t]at h;cases h) h
 have d:∀{b:Addr} {u:HO},g b=none->H b=some u->H' b=some u:=λn h=>k _ _ (λz=>by rw[z,v]at n;cases n) h
 refine⟨A.ob.imp λw h=>k _ _ (λz=>by rw[z,t]at h;cases h) h,d N.d A.hd,d N.f A.hf,d N.o A.ho,cn.mono A.fo λa p h=>WW.mpr (lI.eJ (λZ Z e=>r e) (WW.mp h)),d N.s A.hs,d N.l A.hl,A.el,⟨A.ea.1,λi a e f o=>?_⟩,A.eo,d N.p A.hp,⟨A.pa.1,λi a e f o=>?_⟩⟩
 .let⟨j,l,m⟩:=A.ea.2 i a e f o;exact⟨j,d (N.la a (vm f)) l,cn.mono m λb q h=>r h⟩
 .let⟨j,l,m⟩:=A.pa.2 i a e f o;exact⟨j,d (N.pa a (vm f)) l,cn.mono m λb q h=>r h⟩
def dU.uF{a d:Addr}{e H H':Hp}{c m st:Addr}{z:Sa}{ls:L4}{ps:N1}{gs:L5}{E:L0}{t:Int}{xs ys:N2}(A:dU a d H m st z ls ps gs E t)(N:hH e z)(g:e c=some (.lst xs))(f:H c=some (.lst ys))(k:∀b u,b≠c->H b=some u->H' b=some u):dU a d H' m st z ls ps gs E t:=
 ⟨A.ob.imp λi h=>k _ _ (λz=>by rw[z,f]at h;cases h) h,A.sg.uF N g f k,A.ne⟩
inductive gZ(C:Addr)(vs:N2)(H:Hp)(Q:VK)(xk:XK):Prop
 | mk (a dx b pl pp:Addr) (las pas:L7) (ls:L4) (ps:N1) (gs:L5) (hs:L1) (_:vs=[.ref a,.ref b]) (_:H a=some (.ins C dx [])) (_:dt H b pl pp las pas ls ps) (_:Sn ls ps gs hs) (_:∀(z:Sa) (E:L0) (H':Hp),(∀c u,c≠a->H c=some u->H' c=some u)->cV C H' a z ls ps gs E->hH H z->Q .de H'):gZ C vs H Q xk
inductive fi(CM CS:Addr)(vs:N2)(H:Hp)(Q:VK)(xk:XK):Prop
 | mk (m dx bx l f:Addr) (las das:L7) (ls:L4) (ks:List Dm) (gs:L5) (hs:L1) (_:vs=[.ref m,.ref bx]) (_:H m=some (.ins CM dx [])) (_:H bx=some (.tup [.ref l,.ref f])) (_:H l=some (.lst (las.map V.ref))) (_:cn (eU H) las ls) (_:H f=some (.lst (das.map V.ref))) (_:hQ H das ks) (_:j0 ls ks) (_:Sn ls (eM ls ks) gs hs) (_:∀(st:Addr) (z:Sa) (E:L0) (H':Hp),(∀c u,c≠m->H c=some u->H' c=some u)->H st=none->dU CM CS H' m st z ls (eM ls ks) gs E 0->hH H z->Q .de H'):fi CM CS vs H Q xk
inductive eR(CM CS:Addr)(vs:N2)(H:Hp)(Q:VK)(xk:XK):Prop
 | mk (bx kt l f lh:Addr) (kv:V) (las das:L7) (ls:L4) (ks:List Dm) (gs:L5) (hs:L1) (E:L0) (t:Int) (_:vs=[.ref bx,.ref kt]) (_:H bx=some (.tup [.ref l,.ref f])) (_:H l=some (.lst (las.map V.ref))) (_:cn (eU H) las ls) (_:H f=some (.lst (das.map V.ref))) (_:hQ H das ks) (_:j0 ls ks) (_:Sn ls (eM ls ks) gs hs) (_:H kt=some (.tup [.int t,.ref lh,kv])) (_:DV H (.ref kt) (eV ls (eM ls ks) gs E t)) (_:⇑E=⇑(eM ls ks)) (_:dF ls (eM ls ks) E) (_:0<=t) (_:t<=gs∘(⇑(eM ls ks)-1)) (_:∀(m st:Addr) (z:Sa) (H':Hp),cj H H'->H m=none->H st=none->dU CM CS H' m st z ls (eM ls ks) gs E t->hH H z->Q (.ref m) H'):eR CM CS vs H Q xk
end Rm
namespace L2
inductive eS(a0 a1:Prop):Prop | mk:a0->a1->eS a0 a1
inductive kb(a0 a1 a2:Prop):Prop | mk:a0->a1->a2->kb a0 a1 a2
inductive fC(a0 a1 a2 a3:Prop):Prop | mk:a0->a1->a2->a3->fC a0 a1 a2 a3
inductive nC(a0 a1 a2 a3 a4:Prop):Prop | mk:a0->a1->a2->a3->a4->nC a0 a1 a2 a3 a4
inductive lJ(a0 a1 a2 a3 a4 a5:Prop):Prop | mk:a0->a1->a2->a3->a4->a5->lJ a0 a1 a2 a3 a4 a5
inductive sy(a0 a1 a2 a3 a4 a5 a6:Prop):Prop | mk:a0->a1->a2->a3->a4->a5->a6->sy a0 a1 a2 a3 a4 a5 a6
inductive sC(a0 a1 a2 a3 a4 a5 a6 a7 a8:Prop):Prop | mk:a0->a1->a2->a3->a4->a5->a6->a7->a8->sC a0 a1 a2 a3 a4 a5 a6 a7 a8
inductive pd(a0 a1 a2 a3 a4 a5 a6 a7 a8 a9 a10 a11 a12 a13:Prop):Prop | mk:a0->a1->a2->a3->a4->a5->a6->a7->a8->a9->a10->a11->a12->a13->pd a0 a1 a2 a3 a4 a5 a6 a7 a8 a9 a10 a11 a12 a13
inductive eD{α0:Type}(p:α0->Prop):Prop | mk (x0) (h:p x0):eD p
inductive gC{α0 α1:Type}(p:α0->α1->Prop):Prop | mk (x0 x1) (h:p x0 x1):gC p
inductive iX{α0 α1 α2:Type}(p:α0->α1->α2->Prop):Prop | mk (x0 x1 x2) (h:p x0 x1 x2):iX p
inductive mq{α0 α1 α2 α3:Type}(p:α0->α1->α2->α3->Prop):Prop | mk (x0 x1 x2 x3) (h:p x0 x1 x2 x3):mq p
inductive ql{α0 α1 α2 α3 α4:Type}(p:α0->α1->α2->α3->α4->Prop):Prop | mk (x0 x1 x2 x3 x4) (h:p x0 x1 x2 x3 x4):ql p
inductive sD{α0 α1 α2 α3 α4 α5:Type}(p:α0->α1->α2->α3->α4->α5->Prop):Prop | mk (x0 x1 x2 x3 x4 x5) (h:p x0 x1 x2 x3 x4 x5):sD p
inductive sE{α0 α1 α2 α3 α4 α5 α6:Type}(p:α0->α1->α2->α3->α4->α5->α6->Prop):Prop | mk (x0 x1 x2 x3 x4 x5 x6) (h:p x0 x1 x2 x3 x4 x5 x6):sE p
inductive nD{α0 α1 α2 α3 α4 α5 α6 α7:Type}(p:α0->α1->α2->α3->α4->α5->α6->α7->Prop):Prop | mk (x0 x1 x2 x3 x4 x5 x6 x7) (h:p x0 x1 x2 x3 x4 x5 x6 x7):nD p
inductive sF{α0 α1 α2 α3 α4 α5 α6 α7 α8:Type}(p:α0->α1->α2->α3->α4->α5->α6->α7->α8->Prop):Prop | mk (x0 x1 x2 x3 x4 x5 x6 x7 x8) (h:p x0 x1 x2 x3 x4 x5 x6 x7 x8):sF p
inductive pe{α0 α1 α2 α3 α4 α5 α6 α7 α8 α9:Type}(p:α0->α1->α2->α3->α4->α5->α6->α7->α8->α9->Prop):Prop | mk (x0 x1 x2 x3 x4 x5 x6 x7 x8 x9) (h:p x0 x1 x2 x3 x4 x5 x6 x7 x8 x9):pe p
end L2
def L2.dQ(a:sc.kind = .function:=by rfl)(b:sc.isCoroutine=false:=by rfl)(c:sc.isGenerator=false:=by rfl)(d:N.Nodup:=by trivial)(e:N.take ⇑P=P:=by rfl)(f:∀x∈P,sc.names.lookup x=some .local\/sc.names.lookup x=some .cell:=by trivial)(g:∀y∈sc.names,y.2≠.free:=by trivial):L2.ck N P sc:=⟨a,b,c,d,e,f,g⟩
structure PySem.W.Fast:Prop where
  (tw6319468859761499289 tw10915976194189826002 tw422950232792206123 tw3034958698222860585 tw7363038148694245463 tw3639766517393005267 tw11324804130601198988 tw1051993585258035387 tw8920297330772885832 tw2648914407044812958 tw18204107603325945029 tw15007421955208620490 tw17348718982222710821 tw11893789900999958056 tw17211355170169283482 tw11908671416772333581 tw12997922401215018714 tw467518626051865557 tw14558986101505091557 tw12403973170079317922 tw10751419879995769730 tw7861200166539598824 tw7378739423526987485 tw3103991910609716042 tw1181369973193072027 tw3662606603172478438 tw8208091190205143429 tw7365671397029416493 tw5188846919225637124 tw17291230476874620124 tw3992106871809408583 tw5868012401151974243 tw15630531759986102700 tw14613035955245998148 tw4762626188110074889 tw15229659750679564819 tw14878142228468460457 tw13720944681244678748 tw15207712363441162240 tw17926617917614483825 tw14172547691524274158 tw14310585786838069063 tw12637494334059800553 tw17585190075894885682 tw13104139868036355571 tw2630689259417207746 tw6339002189592658937 tw3064789608682527310 tw15511530048218834892 tw1513386550100500936 tw7046237106343638567 tw12626698312879204167 tw12132487022006872403 tw12420958877601837327 tw12560747576662645366 tw8227216060629680524 tw1322149957116945157 tw6560829345901699451 tw18009911713771979911 tw14215997229511420066 tw4279667225231911259 tw2505100767648488263 tw12363959127360921721 tw11793291096129524754 tw14484665495604349526 tw10643712247012365813 tw17257322316143766055 tw8549111383886908029 tw3259105619642434145 tw17055048078682551218 tw5487293073451110985 tw1784835630974387039 tw17471315207460090257 tw1877416729867665957 tw16043505339447519267 tw14470159620987054656 tw7592623430612364965 tw7240745633647162715 tw6662147912161912683 tw12570025684114664578 tw14949126544788225511 tw4957534466339577421 tw4983000912326907442 tw16127769646757136566 tw3280935743349227151 tw10439873366054764746 tw13383822875168959654 tw6151296343290342115 tw11559007453679807456 tw504706172299957883 tw11008904521782939643 tw8223135975006546264 tw17395488547202601978 tw10299266176749627387 tw7756380119690506160 tw7660103754549094993 tw9081580410452537682 tw4014687594511086736 tw16459608088790075480 tw11887604135098355492 tw15043309723629957081 tw18300748933881431416 tw8893292944915983401 tw9166687055588594506 tw3987364113548629095 tw7476598228131086205 tw3742385941891919683 tw12884618315948287802 tw9287728252533964940 tw10393268632185076011 tw1281890939304898503 tw365429515747748111 tw11619600713165476686 tw10765461633870518766 tw11364445791328640242 tw11347779055649294085 tw15356583514981001014 tw4886753521101210047 tw14110097054555182739 tw18166252011231830969 tw6986599879383943303 tw18381492432849125183 tw13570548894767485038 tw8736777945445721865 tw7967643927908630895 tw12706630592999556070 tw4444513983026660780 tw3211715024034495661 tw3079301733864560268 tw8954430070031732912 tw2219483125012291313 tw4896199043962136036 tw7440320006091995809 tw7087734048572777303 tw5257588131876220574 tw14296620438364130212 tw8486032075622514397 tw16593615283138535486 tw12266843956056614889 tw5215130720419802226 tw3169763112106084810 tw5536044804924603126 tw9134843124301842134 tw14405987455493238977 tw18268964666669394441 tw1205647557232424066 tw4820490853876274746 tw6876323354369920283 tw16362071139270190098 tw2667156026627473542 tw13585761273008498502 tw13275478376104976224 tw17802076564791016530 tw15207404306999693478 tw12892928264906163397 tw13585484791195269740 tw2826812493066052727 tw3619988512245798674 tw9909171904955534087 tw10920922585834287765 tw934821279513918017 tw8370008781482993807 tw14142269469971020382 tw14341886268240797937 tw15637452244271926896 tw18346418336706719342 tw7393431673797844477 tw14791277795948096950 tw13337594926527819012 tw16462628570936094072 tw14154265691614528953 tw17808757483878195247 tw6634974779172440863 tw16171002018117013521 tw13931746640426511794 tw2577124753686631462 tw986592466157884900 tw1659876082837866690 tw8372228036237042494 tw16311411765286303834 tw14076815548532416677 tw11996043953121900686 tw16815509641668063103 tw11393394624615664685 tw18192195196636038054 tw14760580275910704892 tw18312216074852707889 tw7285452223908436214 tw13830341558254235425 tw9139350245269968624 tw15726013530837761876 tw222569327683840644 tw2606232244224890062 tw3102328141013544602 tw9281273331970005019 tw12983003424706984880 tw14889894508472875027 tw12346220330004109801 tw9922379176631514526 tw6802693431542211579 tw5845630240910269632 tw12209229743559578464 tw9708802617455784774 tw9118868209771209454 tw6481046743857450082 tw16351756489275087473 tw2247840429859129319 tw4867236704524708028 tw6444341813969638489 tw16565035445341442680 tw17865858276726893560 tw9418803667377359657 tw14562762607127226697 tw10791894899180522252 tw12776050726166015498 tw11633858947293865019 tw17732056447909176165 tw91336519946436672 tw6558536567041259554 tw11942760635276656209 tw5291358919603720974 tw8405914996917933479 tw4508498059470056191 tw10341104678386715319 tw3001744899312275342 tw10931715087975709686 tw9970525915434298203 tw16832261707465673937 tw12679477477974645050 tw2398234355718920265 tw6127941860923520970 tw2401043637370458758 tw337727060271437228 tw3110519823778480455 tw4072125357211123923 tw7496363610378343265 tw2932991585364664690 tw14128780304426504168 tw8531774850402573316 tw12752768775664228726 tw17957812281350629434 tw1153000072494639317 tw15342348046483752817 tw14738729189415463099 tw17617036796699553807 tw3381565195143483970 tw17195862101037290785 tw16473373009811649698 tw10049309404474223604 tw14606296494577312012 tw9505662734553357716 tw1924528846068567386 tw11088104165826092466 tw12453293345242797171 tw4412834248694536022 tw10237816132001886092 tw2096452671823658777 tw15028398557058975055 tw442296641240911711 tw1492701436882844445 tw4372104592868351308 tw11530786387006565537 tw4371370160841589397 tw16433964887849018717 tw3872164994235863576 tw10672344937800987046 tw1479413753836514579 tw12219519429847929036 tw5634061477716200458 tw16869925062270205840 tw5861285086723188068 tw2340936807357410579 tw8354683218237610802 tw15117589792790146630 tw6961109690206213194 tw533420528111036984 tw3481717710931713985 tw17222225316100728672 tw13851816084308482457 tw2483797570185691267 tw17078584179598790769 tw13589064746064913647 tw13689616158473239032 tw2732845887892405000 tw17669786061297385379 tw1545740300160452227 tw16439751512196497663 tw2440817136595118455 tw1248634762674316923 tw4914036440741112835 tw15457578871972023404 tw2921732558536304584 tw10556716862880271332 tw16941988388043208285 tw8018970930103033989 tw15493061211845648518 tw9367019695391042413 tw8757375647959778885 tw2663932861426919493 tw16019598426282514577 tw18222157408997455774 tw8536563067602193849 tw4772064358201690978 tw5466911949307279870 tw15134917172114220037 tw6939165060154374149 tw17335943506495501680 tw9804427964295263622 tw16811326769388414428 tw8485311904446836510 tw16849279307452289525 tw11432393389594883047 tw11219093253256693569 tw11368848712337836269 tw16228350950948751653 tw11562400038775617348 tw16292425410231555645 tw10187237354977211978 tw4559256647435430277 tw2610884698139050047 tw9670849945417714403 tw13523511928632656567 tw18175755120763156032:True)
namespace L2
open PySem PySem.Spec PyProof.Rows
structure eZ(K:cG)(mg:Nw)(x:Str)(st:Stmt)(f:Addr)(d:FuncData)(ps:L8):Prop where
  F:fA K x x st f d
  m:mg x=↥f
  B:Binds K d ps []
def jq{X:Cx}{x:Str}{st:Stmt}{f:Addr}{d:FuncData}{ps:L8}{j k:Nat}{sp:Sp}{e:Expr}{es:Nt}{p a:Pos}{t:TA}(D:eZ X.K X.mg x st f d ps)(F:dO X.prog X.w X.K X.mg X.base oZ j f d ps sp)(n:dB k X.A)(g:PA X (e::es) t)(m:j<=k:=by decide)(l:Gl X x:=by rfl)(b:(x==("__debug__" : Str))=false:=by decide)(i:starEach (e::es) X.env=(false,eval e X.env)::starEach es X.env:=by rfl)(c:(backTo a (starEach es X.env)).any (·.1)=false:=by rfl):PE X (.Call (.Name x p) (e::es) [] a) (nY sp [] E0 t):=DI (F.mono m) n l D.m D.F.kp D.B .nil cZ g b i c
end L2
set_option hygiene false
local macro_rules | `(tactic| rotate_right $n) => do
  let k:=n.getNat
  if k<100 then Lean.Macro.throwUnsupported
  let a<-`(some _)
  let b<-`(none)
  let xs:=Array.replicate (k/100) a++Array.replicate (k%100) b
  `(tactic| (refine L2.jC (S':=[$xs,*]) rfl ?_;try dsimp only[L2.dJ,L2.Cx.iw]))
set_option hygiene true
local macro_rules | `(tactic| specialize $e) => do
  let i:=λ(k:String)=>Lean.mkIdent (Lean.Name.mkSimple k)
  `(tactic| (refine $e (fun $(i "vs") $(i "H") $(i "Q") $(i "E") $(i "h")=>?_) (fun $(i "cdv") $(i "A") $(i "outer") $(i "s") $(i "H") $(i "vs") $(i "Q") $(i "E") $(i "hr") $(i "h")=>?_);(focus cases $(i "h"):ident;subst_vars;rfl);have $(i "sz"):ident:(10000:Nat)<PySem.sizeLine:=by decide))
def Rm.cv{b:Bool}{A B:Prop}(h:B)(e:b=false:=by trivial):if b=true then A else B:=Rm.eN e h
def Rm.cY{b:Bool}{A B:Prop}(h:A)(e:b=true:=by trivial):if b=true then A else B:=Rm.i7 e h
namespace K42
noncomputable section
set_option hygiene false
local macro_rules | `($n <* $f $as*) => `(dO P w K mg base oZ $n $f $as*)
set_option hygiene true
open PySem L2 Rm
def top(i:Nat):Stmt:=PySem.Challenge.pw_camplay_k42_kept_and_resumed.main.body.getD i (.Pass ⟨0,0,0,0⟩)
abbrev yW:Stmt:=top 16
def zw:ck ["named","numbers","number","one"] ["named"] (cf yW):=dQ
abbrev kR:Stmt:=top 17
def Fw:ck ["form"] ["form"] (cf kR):=dQ
abbrev ZS:Stmt:=top 20
def Fq:ck ["form","limbs","parts"] ["form","limbs","parts"] (cf ZS):=dQ
abbrev AN:Stmt:=top 21
def Y9:ck ["book","limbs","numbers","known","name","form"] ["book"] (cf AN):=dQ
abbrev wE:Stmt:=top 22
def yY:ck ["forms","drum","needed","number","other"] ["forms","drum"] (cf wE):=dQ
abbrev Wp:Stmt:=top 23
def zM:ck ["book","found","forms","kept","limbs","anew","place","number"] ["book"] (cf Wp):=dQ
abbrev wF:Stmt:=top 24
def yZ:ck ["number","name"] ["number"] (cf wF):=dQ
abbrev Zd:Stmt:=top 25
def kU:ck ["box","limbs","names"] ["box"] (cf Zd):=dQ
abbrev Wr:Stmt:=top 27
def YW:ck ["book","numbers","found","name","form"] ["book"] (cf Wr):=dQ
abbrev AM:Stmt:=top 28
def ZU:ck ["book","limbs","found","part","inside","form","left","other"] ["book"] (cf AM):=dQ
abbrev Wt:Stmt:=top 29
def xy:ck ["book","found","left"] ["book"] (cf Wt):=dQ
abbrev Za:Stmt:=top 30
def Z7:ck ["row","moves","limbs","number","limb"] ["row","moves","limbs"] (cf Za):=dQ
abbrev YU:Stmt:=top 31
def Fs:ck ["form","inside"] ["form","inside"] (cf YU):=dQ
abbrev yt:Stmt:=top 32
def QE:ck ["book","moves","found","row","inside","form","length"] ["book"] (cf yt):=dQ
abbrev AO:Stmt:=top 34
def Lw:ck ["start","goal","beats","j"] ["start","goal","beats","j"] (cf AO):=dQ
abbrev YV:Stmt:=top 36
def qz:ck ["form","inside","sizes","part","later","found","begin"] ["form","inside","sizes"] (cf YV):=dQ
abbrev ZT:Stmt:=top 37
def Ft:ck ["book","sizes"] ["book","sizes"] (cf ZT):=dQ
abbrev kS:Stmt:=top 38
def qT:ck ["pieces","sizes","gone","found","part","turns","begin","over","rest"] ["pieces","sizes","gone"] (cf kS):=dQ
abbrev xw:Stmt:=top 40
def Ze:ck ["pieces","sizes","gone","found","part","begin","over","rest"] ["pieces","sizes","gone"] (cf xw):=dQ
abbrev qb:Stmt:=(inClass (top 41) 0)
def KB:ck ["self","book"] ["self","book"] (cf qb):=dQ
abbrev Z5:Stmt:=(inClass (top 41) 1)
def JH:ck ["self","beat","starts","playing","todo","now","limb","height"] ["self","beat"] (cf Z5):=dQ
abbrev QC:Stmt:=(inClass (top 41) 2)
def j4:ck ["self","beat","scene","heights","part","gone","form","limb"] ["self","beat"] (cf QC):=dQ
abbrev zo:Stmt:=(inClass (top 41) 3)
def JP:ck ["self","beat","words","part","gone","form"] ["self","beat"] (cf zo):=dQ
abbrev yu:Stmt:=top 43
def y6:ck ["stage","starts","inside","part","gone","form","found","pins"] ["stage","starts","inside","part","gone"] (cf yu):=dQ
abbrev wG:Stmt:=top 44
def ZD:ck ["stage","beat","scene","found","part","gone"] ["stage","beat"] (cf wG):=dQ
abbrev QB:Stmt:=(inClass (top 45) 0)
def kj:ck ["self","box"] ["self","box"] (cf QB):=dQ
abbrev ZA:Stmt:=(inClass (top 45) 1)
def Wg:ck ["self"] ["self"] (cf ZA):=dQ
abbrev Zx:Stmt:=(inClass (top 45) 2)
def Yb:ck ["self","beat"] ["self","beat"] (cf Zx):=dQ
abbrev Zw:Stmt:=(inClass (top 45) 3)
def NY:ck ["self"] ["self"] (cf Zw):=dQ
abbrev Q4:Stmt:=(inClass (top 45) 4)
def kT:ck ["self"] ["self"] (cf Q4):=dQ
abbrev Zz:Stmt:=(inClass (top 45) 5)
def Wf:ck ["self"] ["self"] (cf Zz):=dQ
abbrev Zy:Stmt:=(inClass (top 45) 6)
def We:ck ["self"] ["self"] (cf Zy):=dQ
abbrev wH:Stmt:=top 46
def y8:ck ["box","kept","machine"] ["box","kept"] (cf wH):=dQ
abbrev ZB:Stmt:=top 48
def Wh:ck ["_law_script","_law_k"] ["_law_script","_law_k"] (cf ZB):=dQ
abbrev yU:Stmt:=top 49
def xV:ck ["_law_cell","_law_k"] ["_law_cell","_law_k"] (cf yU):=dQ
abbrev yT:Stmt:=top 50
def kz:ck ["_law_script","_law_j","_law_k","_law_first"] ["_law_script","_law_j","_law_k"] (cf yT):=dQ
abbrev YT:Stmt:=top 51
def Fp:ck ["_law_place","_law_k"] ["_law_place","_law_k"] (cf YT):=dQ
abbrev zZ:Stmt:=top 52
def JY:ck ["_law_number","_law_names","_law_movers","_law_kind","_law_some","_law_used","_law_j","_law_at","_law_twice"] ["_law_number","_law_names","_law_movers","_law_kind"] (cf zZ):=dQ
abbrev YO:Stmt:=top 53
def Qf:ck ["_law_number","_law_names","_law_movers","_law_limbs","_law_bounds","_law_kind","_law_more_here","_law_beats","_law_at"] ["_law_number","_law_names","_law_movers","_law_limbs","_law_bounds"] (cf YO):=dQ
abbrev zL:Stmt:=top 54
def Fo:ck ["_law_form_here","_law_known"] ["_law_form_here","_law_known"] (cf zL):=dQ
abbrev yV:Stmt:=top 55
def JX:ck ["_law_form_here","_law_names","_law_movers","_law_inner","_law_found","_law_name","_law_one"] ["_law_form_here","_law_names","_law_movers"] (cf yV):=dQ
abbrev YQ:Stmt:=top 56
def Q5:ck ["_law_names","_law_known","_law_most","_law_some","_law_total","_law_name"] ["_law_names","_law_known","_law_most"] (cf YQ):=dQ
abbrev YS:Stmt:=top 57
def KC:ck ["_law_pool","_law_many","_law_found"] ["_law_pool","_law_many"] (cf YS):=dQ
abbrev Qr:Stmt:=top 58
def Jm:ck ["_law_pool","_law_kind","_law_names","_law_movers","_law_bounds","_law_times","_law_many","_law_some","_law_used","_law_j","_law_at","_law_twice"] ["_law_pool","_law_kind","_law_names","_law_movers","_law_bounds"] (cf Qr):=dQ
abbrev zq:Stmt:=top 59
def JQ:ck ["_law_pool","_law_names","_law_movers","_law_limbs","_law_bounds","_law_kind","_law_beats","_law_limb","_law_some"] ["_law_pool","_law_names","_law_movers","_law_limbs","_law_bounds"] (cf zq):=dQ
abbrev zp:Stmt:=top 60
def jF:ck ["_law_script","_law_many","_law_bounds","_law_pool","_law_place","_law_limbs","_law_k","_law_called","_law_ended","_law_names","_law_movers","_law_known","_law_parts","_law_cell","_law_own","_law_form_here","_law_name"] ["_law_script","_law_many","_law_bounds"] (cf zp):=dQ
abbrev YM:Stmt:=top 61
def jW:ck ["_law_script","_law_many","_law_bounds","_law_head","_law_limbs","_law_k","_law_height","_law_names","_law_movers","_law_known","_law_parts","_law_number","_law_form_here","_law_name"] ["_law_script","_law_many","_law_bounds"] (cf YM):=dQ
abbrev YR:Stmt:=top 62
def yX:ck ["_law_pins","_law_k"] ["_law_pins"] (cf YR):=dQ
abbrev Z6:Stmt:=top 63
def qc:ck ["_law_kept","_law_way","_law_beats","_law_far","_law_beat","_law_heights","_law_pins","_law_at","_law_other"] ["_law_kept","_law_way","_law_beats","_law_far"] (cf Z6):=dQ
abbrev ZC:Stmt:=top 64
def Qw:ck ["_law_box","_law_kept","_law_error","e"] ["_law_box","_law_kept"] (cf ZC):=dQ
abbrev yS:Stmt:=top 65
def kx:ck ["_law_one","_law_other","_law_many","_law_k"] ["_law_one","_law_other","_law_many"] (cf yS):=dQ
abbrev Bi:Stmt:=top 66
def QD:ck ["_law_script","_law_many","_law_book_here","_law_beats","_law_box","_law_machine","_law_some","_law_k","_law_beat","_law_kept","_law_way","_law_far","_law_handed","_law_again"] ["_law_script"] (cf Bi):=dQ
set_option genInjectivity false in
set_option genSizeOf false in
structure Ad where
 qr:Addr
 qv:FuncData
 Zj:Addr
 Zn:FuncData
 QI:Addr
 QK:FuncData
 Ar:Addr
 AS:FuncData
 KY:Addr
 wa:FuncData
 XQ:Addr
 X4:FuncData
 YY:Addr
 Y0:FuncData
 KW:Addr
 K8:FuncData
 Ka:Addr
 Kh:FuncData
 XR:Addr
 X5:FuncData
 XT:Addr
 X6:FuncData
 zT:Addr
 zW:FuncData
 ZG:Addr
 ZN:FuncData
 KZ:Addr
 wb:FuncData
 XU:Addr
 X7:FuncData
 ZH:Addr
 ZO:FuncData
 Yp:Addr
 YB:FuncData
 Zk:Addr
 Zo:FuncData
 WA:Addr
 WL:FuncData
 J1:Addr
 Qa:FuncData
 qD:Addr
 qF:FuncData
 qq:Addr
 qu:FuncData
 qY:Addr
 Qb:FuncData
 K1:Addr
 wd:FuncData
 K0:Addr
 wc:FuncData
 Jc:Addr
 Jr:FuncData
 QS:Addr
 QV:FuncData
 j5:Addr
 j7:FuncData
 Ym:Addr
 Yx:FuncData
 qI:Addr
 qK:FuncData
 QR:Addr
 QU:FuncData
 JC:Addr
 JE:FuncData
 zi:Addr
 zl:FuncData
 JD:Addr
 JF:FuncData
 JM:Addr
 JN:FuncData
 yF:Addr
 yJ:FuncData
 zF:Addr
 zK:FuncData
 zS:Addr
 zV:FuncData
 Yo:Addr
 Yz:FuncData
 zD:Addr
 zI:FuncData
 QT:Addr
 QW:FuncData
 zC:Addr
 zH:FuncData
 zE:Addr
 zJ:FuncData
 ZY:Addr
 Z0:FuncData
 zh:Addr
 zk:FuncData
 zg:Addr
 zj:FuncData
 Yn:Addr
 Yy:FuncData
 QH:Addr
 QJ:FuncData
 ZZ:Addr
 Z1:FuncData
 Zi:Addr
 Zm:FuncData
 yE:Addr
 yI:FuncData
 tu:Addr
 sj:FuncData
 jD:Addr
 jy:Addr
 jZ:Addr
 jX:Addr
 Yu:Addr
 Yt:Addr
 Yr:Addr
 Yq:Addr
 WF:Addr
 WE:Addr
 WD:Addr
 Kc:Addr
 Zl:Addr
 yc:Addr
 Ke:Addr
 XL:Value
 Qg:Addr
structure Txt(K:cG)(mg:Nw)(t:Ad):Prop where
 QN:eZ K mg "numbers_of" yW t.qr t.qv ["named"]
 kB:eZ K mg "names_in" kR t.Zj t.Zn ["form"]
 ZF:eZ K mg "form_with" ZS t.QI t.QK ["form","limbs","parts"]
 DT:eZ K mg "made" AN t.Ar t.AS ["book"]
 xZ:eZ K mg "come_to" wE t.KY t.wa ["forms","drum"]
 CQ:eZ K mg "drums" Wp t.XQ t.X4 ["book"]
 Xb:eZ K mg "name_of" wF t.YY t.Y0 ["number"]
 xY:eZ K mg "book_of" Zd t.KW t.K8 ["box"]
 Wi:eZ K mg "inner" Wr t.Ka t.Kh ["book"]
 Aq:eZ K mg "ends" AM t.XR t.X5 ["book"]
 CT:eZ K mg "moved" Wt t.XT t.X6 ["book"]
 kZ:eZ K mg "check_side" Za t.zT t.zW ["row","moves","limbs"]
 wN:eZ K mg "length_of" YU t.ZG t.ZN ["form","inside"]
 Xa:eZ K mg "lengths" yt t.KZ t.wb ["book"]
 DU:eZ K mg "ramp" AO t.XU t.X7 ["start","goal","beats","j"]
 wO:eZ K mg "pieces_in" YV t.ZH t.ZO ["form","inside","sizes"]
 wP:eZ K mg "pieces_of" ZT t.Yp t.YB ["book","sizes"]
 kC:eZ K mg "progress" kS t.Zk t.Zo ["pieces","sizes","gone"]
 BQ:eZ K mg "within" xw t.WA t.WL ["pieces","sizes","gone"]
 KJ:fA K "__init__" "Stage.__init__" qb t.J1 t.Qa
 NW:Meth K t.jD "__init__" t.J1
 KH:Binds K t.Qa ["self","book"] []
 xH:fA K "scene" "Stage.scene" Z5 t.qD t.qF
 Zs:Meth K t.jD "scene" t.qD
 ZV:Binds K t.qF ["self","beat"] []
 kF:fA K "heights_at" "Stage.heights_at" QC t.qq t.qu
 ke:Meth K t.jD "heights_at" t.qq
 kA:Binds K t.qu ["self","beat"] []
 KK:fA K "words_at" "Stage.words_at" zo t.qY t.Qb
 Kr:Meth K t.jD "words_at" t.qY
 KI:Binds K t.Qb ["self","beat"] []
 Xd:eZ K mg "pins_of" yu t.K1 t.wd ["stage","starts","inside","part","gone"]
 Xc:eZ K mg "pins_at" wG t.K0 t.wc ["stage","beat"]
 kE:fA K "__init__" "Machine.__init__" QB t.Jc t.Jr
 NV:Meth K t.jy "__init__" t.Jc
 Qz:Binds K t.Jr ["self","box"] []
 Wy:fA K "step" "Machine.step" ZA t.QS t.QV
 y9:Meth K t.jy "step" t.QS
 Yd:Binds K t.QV ["self"] []
 Yg:fA K "jump" "Machine.jump" Zx t.j5 t.j7
 Qt:Meth K t.jy "jump" t.j5
 QM:Binds K t.j7 ["self","beat"] []
 N4:fA K "beat" "Machine.beat" Zw t.Ym t.Yx
 NX:Meth K t.jy "beat" t.Ym
 NZ:Binds K t.Yx ["self"] []
 k7:fA K "heights" "Machine.heights" Q4 t.qI t.qK
 kI:Meth K t.jy "heights" t.qI
 kW:Binds K t.qK ["self"] []
 Wx:fA K "pins" "Machine.pins" Zz t.QR t.QU
 wX:Meth K t.jy "pins" t.QR
 Wv:Binds K t.QU ["self"] []
 Ww:fA K "kept" "Machine.kept" Zy t.JC t.JE
 Jw:Meth K t.jy "kept" t.JC
 JB:Binds K t.JE ["self"] []
 Q9:eZ K mg "resumed" wH t.zi t.zl ["box","kept"]
 Jh:eZ K mg "_law_cell_at" ZB t.JD t.JF ["_law_script","_law_k"]
 Js:eZ K mg "_law_mixed" yU t.JM t.JN ["_law_cell","_law_k"]
 yA:eZ K mg "_law_great" yT t.yF t.yJ ["_law_script","_law_j","_law_k"]
 zA:eZ K mg "_law_word" YT t.zF t.zK ["_law_place","_law_k"]
 zP:eZ K mg "_law_named" zZ t.zS t.zV ["_law_number","_law_names","_law_movers","_law_kind"]
 wM:eZ K mg "_law_form" YO t.Yo t.Yz ["_law_number","_law_names","_law_movers","_law_limbs","_law_bounds"]
 zx:eZ K mg "_law_long" zL t.zD t.zI ["_law_form_here","_law_known"]
 yB:eZ K mg "_law_moves" yV t.QT t.QW ["_law_form_here","_law_names","_law_movers"]
 Ye:eZ K mg "_law_last" YQ t.zC t.zH ["_law_names","_law_known","_law_most"]
 jQ:eZ K mg "_law_take" YS t.zE t.zJ ["_law_pool","_law_many"]
 km:eZ K mg "_law_naming" Qr t.ZY t.Z0 ["_law_pool","_law_kind","_law_names","_law_movers","_law_bounds"]
 ya:eZ K mg "_law_form_told" zq t.zh t.zk ["_law_pool","_law_names","_law_movers","_law_limbs","_law_bounds"]
 Z9:eZ K mg "_law_book_told" zp t.zg t.zj ["_law_script","_law_many","_law_bounds"]
 wL:eZ K mg "_law_book" YM t.Yn t.Yy ["_law_script","_law_many","_law_bounds"]
 QF:eZ K mg "_law_more" YR t.QH t.QJ ["_law_pins"]
 ko:eZ K mg "_law_spoilt" Z6 t.ZZ t.Z1 ["_law_kept","_law_way","_law_beats","_law_far"]
 Yf:eZ K mg "_law_refused" ZC t.Zi t.Zm ["_law_box","_law_kept"]
 kY:eZ K mg "_law_alike" yS t.yE t.yI ["_law_one","_law_other","_law_many"]
 A4:eZ K mg "law" Bi t.tu t.sj ["_law_script"]
 jU:lU K t.jD
 Iu:Mk K t.jD t.J1
 Ib:mg "Stage"= ↥t.jD
 Qq:dg K t.jD "limbs"
 zu:dg K t.jD "first"
 JV:dg K t.jD "forms"
 Jg:dg K t.jD "sizes"
 zY:dg K t.jD "left"
 qO:dg K t.jD "pieces"
 jG:lU K t.jy
 KU:Mk K t.jy t.Jc
 kK:mg "Machine"= ↥t.jy
 Jx:dg K t.jy "stage"
 J3:dg K t.jy "last"
 Jf:dg K t.jy "now"
 wv:mg "NoBeat"= ↥t.jZ
 wx:mg "NoPins"= ↥t.jX
 E8:mg "PlayError"= ↥t.Yu
 G3:mg "NoName"= ↥t.Yt
 G2:mg "NoLimb"= ↥t.Yr
 G1:mg "NoBook"= ↥t.Yq
 LI:mg "Long"= ↥t.WF
 Lk:mg "Idle"= ↥t.WE
 Lj:mg "Done"= ↥t.WD
 HZ:mg "Broad"= ↥t.Kc
 FE:mg "TwoHands"= ↥t.Zl
 Gf:mg "TooLong"= ↥t.yc
 Ia:mg "NoRow"= ↥t.Ke
 yx:W.excIn K t.jZ [.type "ValueError",.type "Exception",.type "BaseException",.type "object"] "ValueError.__new__"= true
 N5:iW K t.jZ
 J0:W.exmOne K (.ref t.jZ) (.ref t.Yu)=some true
 qj:W.exmOne K (.ref t.jZ) (.ref t.jZ)=some true
 Qh:W.kitOne K (.ref t.jZ) (.ref t.jZ)=some true
 Qk:W.kitOne K (.ref t.jZ) (.ref t.Yt)=some false
 Qj:W.kitOne K (.ref t.jZ) (.ref t.Yr)=some false
 Qi:W.kitOne K (.ref t.jZ) (.ref t.Yq)=some false
 Q8:W.kitOne K (.ref t.jZ) (.ref t.WF)=some false
 Q7:W.kitOne K (.ref t.jZ) (.ref t.WE)=some false
 Q6:W.kitOne K (.ref t.jZ) (.ref t.WD)=some false
 Qx:W.kitOne K (.ref t.jZ) (.ref t.Kc)=some false
 qA:W.kitOne K (.ref t.jZ) (.ref t.Zl)=some false
 qL:W.kitOne K (.ref t.jZ) (.ref t.yc)=some false
 Qy:W.kitOne K (.ref t.jZ) (.ref t.Ke)=some false
 JS:W.kitOne K (.ref t.jZ) (.type "ValueError")=some true
 Ql:W.kitOne K (.ref t.jZ) (.ref t.jX)=some false
 Zf:W.excIn K t.jX [.type "ValueError",.type "Exception",.type "BaseException",.type "object"] "ValueError.__new__"= true
 yz:iW K t.jX
 JA:W.exmOne K (.ref t.jX) (.ref t.Yu)=some true
 Qm:W.exmOne K (.ref t.jX) (.ref t.jZ)=some false
 qd:W.kitOne K (.ref t.jX) (.ref t.jZ)=some false
 qh:W.kitOne K (.ref t.jX) (.ref t.Yt)=some false
 qg:W.kitOne K (.ref t.jX) (.ref t.Yr)=some false
 qf:W.kitOne K (.ref t.jX) (.ref t.Yq)=some false
 qW:W.kitOne K (.ref t.jX) (.ref t.WF)=some false
 qV:W.kitOne K (.ref t.jX) (.ref t.WE)=some false
 qU:W.kitOne K (.ref t.jX) (.ref t.WD)=some false
 qB:W.kitOne K (.ref t.jX) (.ref t.Kc)=some false
 JI:W.kitOne K (.ref t.jX) (.ref t.Zl)=some false
 JT:W.kitOne K (.ref t.jX) (.ref t.yc)=some false
 qC:W.kitOne K (.ref t.jX) (.ref t.Ke)=some false
 Ju:W.kitOne K (.ref t.jX) (.type "ValueError")=some true
 qi:W.kitOne K (.ref t.jX) (.ref t.jX)=some true
 XY:mg "ValueError"= none
 A6:mg "abs"= none
 Mm:mg "dict"= none
 ZK:mg "enumerate"= none
 qZ:mg "isinstance"= none
 JZ:mg "len"= none
 yG:mg "list"= none
 A9:mg "max"= none
 uS:mg "min"= none
 qJ:mg "range"= none
 FD:mg "reversed"= none
 BU:mg "sorted"= none
 Ba:mg "sum"= none
 ZL:mg "tuple"= none
 Bb:mg "zip"= none
 Xj:mg "FIGURES"= some t.XL
 XF:RelV (.str "abcdefghijklmnopqrstuvwxyz") t.XL
 X1:mg "MOST_NAMES"= ↥t.Qg
 Qd:rn K t.Qg [("row",.flat (.int 8)),("side",.flat (.int 4))]
instance:Nonempty Ad:=⟨by constructor<;>exact default⟩
structure Bd where(P:Program)(w:World)(K:cG)(mg:Nw)(base:Heap)(t:Ad)
def gB(b:Bd):Prop:=Txt b.K b.mg b.t->dO b.P b.w b.K b.mg b.base oZ 64 b.t.tu b.t.sj ["_law_script"] (Pr.g4 b.K)
instance:Nonempty Bd:=⟨⟨PySem.Challenge.pw_camplay_k42_kept_and_resumed,⟨λj j=>0,{strHash:=λj=>0,shareClass:=λj=>0,mergeTok:=id,idOf:=λj=>0,idOfShared:=λj j=>0,followText:=λj=>false,idOfImm:=λj=>0}⟩,[],λj=>none,{},Classical.choice inferInstance⟩⟩
@[irreducible]noncomputable def cB:Bd:=Classical.epsilon λb=>¬gB b
def P:=cB.P
def w:=cB.w
def K:=cB.K
def mg:=cB.mg
def base:=cB.base
def t:=cB.t
section
def Fg(T:Txt K mg t):1<*t.QI t.QK ["form","limbs","parts"] (fN):=by
 specialize T.ZF.F.ok Fq;let⟨a,l,p,g,G,rfl,f,v,q⟩:=h;refine⟨_,(jb (jP (jt Jb (jo jv (pv 0) jd) jI (cg _))
   (jf (jx (jr DF (jH (ja (jo jv (pv 0) jd) (ja (jo (AX (K:=K) rfl (qp hr)) (pv 1) (jo jv (pv 0) jd)) jc))) (qR AQ (pv 0) (Qe jd) Q1))))
   jw)
  (jb (jP (jt Jb (jo jv (pv 0) jd) jI (cg _))
   (jf (jx (jH (ja (jo jv (pv 0) jd) (ja (jo jv (pv 0) jd) (ja (jo (AX (K:=K) rfl (qp hr)) (pv 2) (jo jv (pv 0) jd)) jc))))))
   jw)
  (jb (jP (jt wA (jo jv (pv 0) jd) (jH (ja jI (ja jI jc))) (by with_unfolding_all rfl))
   (jf (jx (jH (ja (jo jv (pv 0) jd) (ja (Jn JU (by rfl) T.ZL zG (ja (JO (ow:=["other"]) (ci:=[2]) rfl (cq.of (cf ZS) ["form","limbs","parts"] rfl rfl ∅) (Qs nofun) (xf (jo jv (pv 0) jd)) (λZ Z Z Z Z=>⟨(cW 0 (j6 ["form","limbs","parts"] rfl ∅)),qS,(jo (AX (K:=K) rfl (qp hr)) (pv 1) (pv 0))⟩)) jc)) jc)))))
   jw)
  (jf (jx (pv 0)))))),?_⟩
 rotate_right 300
 have I:(200:Nat)<sizeLine:=by decide
 cases g with
 | nV r vs=>
  cases v;cases r with
  | false=>
   have c:H a=some (.tup (.str "hold"::vs)):=f;exists ez (cJ.of c) (iV) ?_;exists cv ?_;exists ez (cJ.of c) (iV) ?_;exists cv ?_;exists ez (cJ.of c) (iV) ?_;exists⟨uA,?_⟩;sleep 1;refine⟨p1,_,rfl,.inr (cJ.of t1),rfl,rfl,_,rfl,?_⟩;refine cv ?_;ac_nf;exact q a H1 s1 (s1 _ _ c)
  | true=>
   have c:H a=some (.tup (.str "ring"::vs)):=f;exists ez (cJ.of c) (iV) ?_;exists cv ?_;exists ez (cJ.of c) (iV) ?_;exists cv ?_;exists ez (cJ.of c) (iV) ?_;exists⟨uA,?_⟩;sleep 1;refine⟨p1,_,rfl,.inr (cJ.of t1),rfl,rfl,_,rfl,?_⟩;refine cv ?_;ac_nf;exact q a H1 s1 (s1 _ _ c)
 | rise x h n=>
  have c:H a=some (.tup [.str "raise",x,h,n]):=f;let⟨y,B,rfl⟩:=v;exists cz c ?_;exists cY ?_;exists cz c ?_;exists cz c ?_;refine uJ B ?_;exists⟨uA,?_⟩;sleep 1;exists⟨a,_,rfl,cJ.of (s1 _ _ c),(by show¬(HT.du 4 0 (some 2)=0/\HT.du 4 4 none=4);decide),?_⟩;sleep 2;refine⟨p1,p2,_,_,rfl,rfl,cJ.of (s2 _ _ t1),cJ.of t2,(λz=>by cases z),?_,?_,?_⟩
  .show 2+2<=sizeLine;lia
  .intro z;cases z
  intro Z;sleep 3;exact q p3 H3 (s1.trans (s2.trans s3)) t3
 | again k x=>
  have c:H a=some (.tup [.str "again",k,x]):=f;let⟨y,B,rfl⟩:=v;exists cz c ?_;exists cv ?_;exists cz c ?_;exists cY ?_;exists cz c ?_;exists cz c ?_;exists cz c ?_;refine uJ B ?_;exists⟨uB,?_⟩;sleep 1;exact q p1 H1 s1 t1
 | many s xs=>
  let⟨j,D,C,J,rfl⟩:=v;cases s with
  | false=>
   let⟨b,c,m⟩:=f;have c:H a=some (.tup [.str "row",.ref b]):=c;exists cz c ?_;exists cv ?_;exists cz c ?_;exists cv ?_;exists cz c ?_;exists⟨uA,?_⟩;sleep 1;refine⟨p1,_,rfl,.inr (cJ.of t1),rfl,rfl,_,rfl,?_⟩;refine cY ?_;exists cz (s1 _ _ c) ?_;exists cz (s1 _ _ c) ?_;refine⟨b,rfl,⟨_,cJ.of (s1 _ _ m)⟩,?_⟩;refine Yv (xs:=xs) (λi e d=>e=j.take i/\H1=d) ⟨rfl,rfl⟩ ?_ ?_ ?_
   .rintro i e d _ ⟨rfl,rfl⟩;exact cJ.of (s1 _ _ m)
   .rintro i x e d o ⟨rfl,rfl⟩;have F:=(vx.mp o).1;have u:j[i]?=some j[i]:=vz ⋯;refine JW (S':=[none,some _]) rfl ?_;exists eB ?_;exists uJ ((C i x _ o u).same s1) ?_;refine⟨by rw[vi];lia,?_,rfl⟩;rw[take_snoc u]
   rintro e d ⟨rfl,rfl⟩;rw[<-D,v8];refine⟨⋯,?_⟩;sleep 2;exists⟨p2,_,rfl,.inl ⟨cm.of t2,?_⟩⟩;sleep 3;exists⟨uA,?_⟩;sleep 4;exact q p4 H4 (s1.trans (s2.trans (s3.trans s4))) ⟨p3,t4,s4 _ _ t3⟩
  | true=>
   let⟨b,c,m⟩:=f;have c:H a=some (.tup [.str "side",.ref b]):=c;exists cz c ?_;exists cv ?_;exists cz c ?_;exists cv ?_;exists cz c ?_;exists⟨uA,?_⟩;sleep 1;refine⟨p1,_,rfl,.inr (cJ.of t1),rfl,rfl,_,rfl,?_⟩;refine cY ?_;exists cz (s1 _ _ c) ?_;exists cz (s1 _ _ c) ?_;refine⟨b,rfl,⟨_,cJ.of (s1 _ _ m)⟩,?_⟩;refine Yv (xs:=xs) (λi e d=>e=j.take i/\H1=d) ⟨rfl,rfl⟩ ?_ ?_ ?_
   .rintro i e d _ ⟨rfl,rfl⟩;exact cJ.of (s1 _ _ m)
   .rintro i x e d o ⟨rfl,rfl⟩;have F:=(vx.mp o).1;have u:j[i]?=some j[i]:=vz ⋯;refine JW (S':=[none,some _]) rfl ?_;exists eB ?_;exists uJ ((C i x _ o u).same s1) ?_;refine⟨by rw[vi];lia,?_,rfl⟩;rw[take_snoc u]
   rintro e d ⟨rfl,rfl⟩;rw[<-D,v8];refine⟨⋯,?_⟩;sleep 2;exists⟨p2,_,rfl,.inl ⟨cm.of t2,?_⟩⟩;sleep 3;exists⟨uA,?_⟩;sleep 4;exact q p4 H4 (s1.trans (s2.trans (s3.trans s4))) ⟨p3,t4,s4 _ _ t3⟩
def xU(T:Txt K mg t):1<*t.qr t.qv ["named"] (df):=by
 specialize T.QN.F.ok zw;let⟨l,M,xs,rfl,B,U,R,X,D,q⟩:=h;refine⟨_,(jb (cM 1 zw.nd yg)
  (jb (Jd PassesOwn.never rfl (Wn (by rfl) T.ZK (ja (pv 0) jc)) (JG rfl (jB (cW 2 zw.nd) (jB (cW 3 zw.nd) Jl)))
   (jf (yQ (qp hr) (pv 1) (jo jv (pv 3) jd) (pv 2) rfl)))
  (jf (jx (pv 1))))),?_⟩
 rotate_right 103
 ac_nf;walk_at"f d hd H1 s1 t1";exists⟨l,_,rfl,cm.of (s1 _ _ B),?_⟩;refine Kk (xs:=M.map V.ref) (λi p c=>gC λ(m n:N3)=>eS (p=[↥l,↥d,m,n]) (cj H c/\c d=some (.dK (gr (xs.take i))))) ⟨_,_,rfl,s1,t1⟩ ?_ ?_ ?_
 .rintro i p c _ ⟨m,n,rfl,g,f⟩;exact cm.of (g _ _ B)
 .rintro i v p c P L G ⟨m,n,rfl,g,f⟩ J Y;rw[vv]at G;let⟨a,x,rfl⟩:=vg.mp G;have Z:=(vx.mp x).1;have C:xs[i]?=some xs[i]:=vz ⋯;let⟨r,O⟩:=R i a _ x C;have I:=g.trans J;have o:⇑(xs.take i)=i:=by rw[vi];lia
  refine qH (cJ.of Y) ?_;exists cz (I _ _ O) ?_;refine⟨d,_,rfl,gM.k (k:=Sum.inr xs[i]) (J _ _ f) (by rw[HA,o];lia),?_⟩;have S:(Sum.inr xs[i]:Key)∉(gr (xs.take i)).map (·.1):=λz=>by
   rw[XC]at z;let⟨y,W,e⟩:=vK.mp z;have N:y=xs[i]:=Sum.inr.inj e;subst N;let⟨j,F,e⟩:=mem_iff_getElem.mp W;rw[getElem_take]at e;rw[o]at F;exact ub e (pairwise_iff_getElem.mp X j i ⋯ ⋯ F)
  refine⟨_,_,rfl,λb u h=>(jg (je h hd)).trans (I _ _ h),?_⟩;rw[jA,YJ S,take_snoc C,Hc,o]
 rintro S' c ⟨m,n,rfl,g,f⟩;rw[vt,U,v8]at f;ac_nf;exact q d c g hd f
def LR(T:Txt K mg t)(j9:1<*t.qr t.qv ["named"] (df))(JL:1<*t.QI t.QK ["form","limbs","parts"] (fN)):2<*t.Ar t.AS ["book"] (lG):=by
 specialize T.DT.F.ok Y9;let⟨b,pl,pp,a1,a2,l,f,rfl,B,W,n1,q⟩:=h;refine⟨_,(jb (cM 1 Y9.nd (jq T.QN j9 hr (ja (jo jv (pv 0) jd) jc)))
  (jb (cM 2 Y9.nd yg)
  (jb (cM 3 Y9.nd HF)
  (jb (Jd PassesOwn.never rfl (Ja (jo jv (pv 0) jd)) (JG rfl (jB (cW 4 Y9.nd) (jB (cW 5 Y9.nd) Jl)))
   (jf (yQ (qp hr) (pv 2) (pv 4) (LV hr.units (pv 3) (ja (jq T.ZF JL hr (ja (pv 5) (ja (pv 1) (ja (pv 2) jc)))) (ja (jE Gy (by rfl) T.JZ Jp (ja (pv 3) jc)) jc))) rfl)))
  (jf (jx (jH (ja (Jn (FN rfl) (by rfl) T.yG zU (ja (pv 3) jc)) (ja (Qu (qp hr) (pv 2) (jo jv (jo jz (jo jv (pv 0) jd) (kr Z8 jd)) jd)) jc))))))))),?_⟩
 rotate_right 105
 have a3:=W.mJ;have pa:=B.pa.1;have la:=B.la.1;have l8:=W.l8;have R:⇑(cb f)=⇑f:=vt _;exists cz B.t ?_;exists⟨pl,a1,cb l,rfl,B.l,by rw[cb,vt];exact la,λi a x ea ex=>?_,W.ln,by rw[cb,vt];lia,λd H1 U hd ed=>?_⟩
 .unfold cb at ex;rw[vv]at ex;let⟨p,ep,rfl⟩:=vg.mp ex;exact⟨_,B.la.2 i a p ea ep⟩
 ac_nf;walk_at"f d2 hd2 H2 s2 t2";exists IT ?_;walk_at"f d3 hd3 H3 s3 t3";have n3:=none_of s2 hd3;have L:=s2.trans s3;have I:d2≠d3:=je t2 hd3;exists cz (L _ _ (U _ _ B.t)) ?_;refine⟨pp,rfl,⟨_,cm.of (L _ _ (U _ _ B.p))⟩,?_⟩;refine J2 (xs:=a2.map V.ref) (λi σ v=>iX λ(Z o5:N3) (xs:List NE)=>fC (σ=[↥b,↥d,↥d2,↥d3,Z,o5]) (cj H1 v) (v d2=some (.dK (gu ((cb f).take i) (cx (cb l) (cb f) (f.take i)).2))) (v d3=some (lV P w d3 xs)/\hU v xs (cx (cb l) (cb f) (f.take i)).1))
  ⟨_,_,[],rfl,L,s3 _ _ t2,t3,⟨rfl,λi d h=>by simp[cx]at h⟩⟩ ?_ ?_ ?_
 .rintro i σ v _ ⟨Z,o5,xs,rfl,C,_⟩;exact cm.of (C _ _ (U _ _ B.p))
 .rintro i x σ v hx ⟨Z,o5,xs,rfl,C,m,D,N⟩;let⟨a,p,rfl,Y,fb,G,hf⟩:=B.pa.cR hx;have hi:=(vx.mp Y).1;have S:=U.trans C;have M:=wT (cb l) (cb f) i (f.take i) (by rw[vi];lia);have mp:=HU (H:=v) W Y M.ln (C _ _ ed) m;have F:=N.1;have lk:=M.lk;have O:(cb f)[i]?=some p.1:=by unfold cb;rw[vv,Y];rfl
  have hk:(Sum.inr p.1:Key)∉(gu ((cb f).take i) (cx (cb l) (cb f) (f.take i)).2).map (·.1):=λz=>by
   rw[XD (by rw[vi,M.ln];lia)]at z;let⟨y,hy,e⟩:=vK.mp z;have e':y=p.1:=Sum.inr.inj e;subst e';let⟨j,hj,e⟩:=mem_iff_getElem.mp hy;rw[vi]at hj;rw[getElem_take]at e;let⟨h2,m⟩:=vx.mp O;exact ub (e.trans m.symm) (pairwise_iff_getElem.mp W.pn j i ⋯ h2 ⋯)
  have nl:⇑(gu ((cb f).take i) (cx (cb l) (cb f) (f.take i)).2)<sizeLine:=by
   rw[HB (by rw[vi,M.ln];lia),vi];lia
  have et:(cb f).take (i+1)=(cb f).take i++[p.1]:=take_snoc O;have em:cx (cb l) (cb f) (f.take (i+1))=dq (cb l) (cb f) (cx (cb l) (cb f) (f.take i)) p:=by rw[take_snoc Y,qN]
  rw[et,em];have ll:⇑((cb f).take i)=(cx (cb l) (cb f) (f.take i)).2.length:=by rw[vi,M.ln];lia
  generalize cx (cb l) (cb f) (f.take i)=st at *;refine qH (cJ.of (S _ _ G)) ?_;exists Ln ?_;exists⟨d3,xs,rfl,D,?_⟩;exists⟨fb,d,d2,_,_,rfl,WW.mp (cu.same S hf),mp,λc H4 o gc=>?_⟩;exists⟨d3,xs,rfl,o _ _ D,?_⟩;ac_nf;have r:=N.eJ λb xs h=>o b (.tup xs) h
  let⟨f1,f2⟩:=r.found (d:=mD (cb l) (cb f) st.2 p.2) M.nd;refine⟨xs,c,_,_,rfl,o _ _ D,r.nat,D2 gc,⋯,λp' a0=>?_,λhn=>?_⟩
  .let⟨hm,hv⟩:=f1 p' a0;rw[hv];exists⟨d2,_,rfl,gM.k (k:=Sum.inr p.1) (o _ _ m) nl,?_⟩;unfold dq;dsimp only;rw[vd hm];refine⟨_,_,xs,rfl,λc u h=>(jg (je h hd2)).trans ((C.trans o) _ _ h),?_,(jg I.symm).trans (o _ _ D),r.eJ λb xs h=>(jg (Jz h (o _ _ m) (λz=>by cases z))).trans h⟩;rw[jA,YJ hk,XE ll];rfl
  .have hm:=f2 hn;exists⟨d2,_,rfl,gM.k (k:=Sum.inr p.1) ((jg I).trans (o _ _ m)) nl,?_⟩;unfold dq;dsimp only;rw[vc hm];have tk:∀b ys,H4 b=some (.tup ys)->upd (upd H4 d3 (lV P w d3 (xs++[(kD (mD (cb l) (cb f) st.2 p.2),c,.int (⇑xs:Nat))]))) d2 (.dK (putK (gu ((cb f).take i) st.2) (Sum.inr p.1) (.int (⇑xs:Nat)))) b=some (.tup ys):=λb ys h=>(jg (Jz h (o _ _ m) (λz=>by cases z))).trans ((jg (Jz h (o _ _ D) (λz=>by cases z))).trans h)
   refine⟨_,_,xs++[(kD (mD (cb l) (cb f) st.2 p.2),c,.int (⇑xs:Nat))],rfl,λc u h=>(jg (je h hd2)).trans ((jg (je h n3)).trans ((C.trans o) _ _ h)),?_,(jg I.symm).trans jA,?_⟩
   .rw[jA,YJ hk,XE ll,F];rfl
   .rw[F];rw[F]at tk;exact(r.eJ tk).snoc (lI.eJ tk gc)
 rintro S' v ⟨Z,o5,xs,rfl,C,m,D,N⟩;rw[vt,pa,v8]at m N;rw[<-R,v8]at m;have S:=U.trans C;exists⟨d3,xs,rfl,D,?_⟩;walk_at"f l5 hl5 H5 s5 t5";ac_nf;have J:=S.trans s5;let⟨a,ha,fb,G,hf⟩:=B.pa.get (i:=⇑f-1) (x:=f[⇑f-1]) (vz ⋯);refine cz (J _ _ B.t) ?_;exists cE (cm.of (J _ _ B.p)) (DW (n:=⇑f) n1 (by rw[vt];exact pa) (by rw[vv,ha];rfl)) ?_;exists cz (J _ _ G) ?_;have M:=wT (cb l) (cb f) ⇑f f rfl;have g:dA H5 d2 (.str f[⇑f-1].1) (some (vN ((cx (cb l) (cb f) f).2.getD (⇑f-1) 0))):=by
  have g:=dA.k (k:=Sum.inr f[⇑f-1].1) (s5 _ _ m);rw[CA (j:=⇑f-1) (R.trans M.ln.symm) W.pn (by unfold cb;rw[vv,vz ⋯];rfl)]at g;exact g
 refine⟨d2,_,rfl,g,?_⟩;exists⟨uA,?_⟩;sleep 6;have X:=s5.trans s6;exact q p6 l5 (xs.map λq=>q.2.1) H6 (S.trans X) t6 (by rw[uz];exact s6 _ _ t5) (hQ.of (N.eJ λb xs h=>X _ _ h))
def FI(T:Txt K mg t):1<*t.Zj t.Zn ["form"] (fZ):=by
 specialize T.kB.F.ok Fw;let⟨a,g,rfl,d,q⟩:=h;refine⟨_,(jb (jP (jt Mq (jo jv (pv 0) jd) (qy (v:=.ref t.Qg) (by rfl) T.X1 rfl) (by with_unfolding_all rfl))
   (jf (jx (jo jv (pv 0) jd)))
   jw)
  (jf (jx (xb (jt Jb (jo jv (pv 0) jd) jI (cg _)) (qR AQ (pv 0) (Qe jd) Q1) (jH jc))))),?_⟩
 rotate_right 100
 have f:(200:Nat)<sizeLine:=by decide
 cases g with
 | nV r vs=>
  cases r with
  | false=>
   have c:H a=some (.tup (.str "hold"::vs)):=d;exists ez (cJ.of c) (iV) ?_;exists⟨_,_,_,rfl,rfl,T.Qd,?_⟩;exists cv ?_;exists ez (cJ.of c) (iV) ?_;exists cv ?_;exists⟨va _,?_⟩;walk_at"f b hb H1 s1 t1";exact q b H1 s1 t1
  | true=>
   have c:H a=some (.tup (.str "ring"::vs)):=d;exists ez (cJ.of c) (iV) ?_;exists⟨_,_,_,rfl,rfl,T.Qd,?_⟩;exists cv ?_;exists ez (cJ.of c) (iV) ?_;exists cv ?_;exists⟨va _,?_⟩;walk_at"f b hb H1 s1 t1";exact q b H1 s1 t1
 | rise x h n=>
  have c:H a=some (.tup [.str "raise",x,h,n]):=d;exists cz c ?_;exists⟨_,_,_,rfl,rfl,T.Qd,?_⟩;exists cv ?_;exists cz c ?_;exists cv ?_;exists⟨va _,?_⟩;walk_at"f b hb H1 s1 t1";exact q b H1 s1 t1
 | again k x=>
  have c:H a=some (.tup [.str "again",k,x]):=d;exists cz c ?_;exists⟨_,_,_,rfl,rfl,T.Qd,?_⟩;exists cv ?_;exists cz c ?_;exists cY ?_;exists⟨a,_,rfl,cJ.of c,(by show¬(HT.du 3 0 (some 2)=0/\HT.du 3 3 none=3);decide),?_⟩;walk_at"f b hb H1 s1 t1";exact q b H1 s1 t1
 | many s xs=>
  let⟨b,c,e⟩:=d;cases s with
  | false=>
   have c:H a=some (.tup [.str "row",.ref b]):=c;exists cz c ?_;exists⟨_,_,_,rfl,rfl,T.Qd,?_⟩;exists cY ?_;exists cz c ?_;exact q b H (cj.refl _) e
  | true=>
   have c:H a=some (.tup [.str "side",.ref b]):=c;exists cz c ?_;exists⟨_,_,_,rfl,rfl,T.Qd,?_⟩;exists cY ?_;exists cz c ?_;exact q b H (cj.refl _) e
def Gh(T:Txt K mg t)(ze:1<*t.Zj t.Zn ["form"] (fZ)):2<*t.KY t.wa ["forms","drum"] (lF):=by
 specialize T.xZ.F.ok yY;let⟨f,a0,o,e,rfl,ef,dr,D,tl,a2,q⟩:=h;refine⟨_,(jb (cM 2 yY.nd (LU (HK (pv 1) YI Mc) rfl rfl (by simp) nofun))
  (jb (Jd PassesOwn.never rfl (Hg (by rfl) T.qJ (ja (pv 1) (ja (kr Z8 jd) (ja (kr Z8 jd) jc)))) (cW 3 yY.nd)
   (jf (jP (MC (Mt (qp hr) (pv 3) (pv 2)))
    (jf (Jd PassesOwn.never rfl (xf (jq T.kB ze hr (ja (jo jz (pv 0) (pv 3)) jc))) (cW 4 yY.nd)
     (jf (yQ (qp hr) (pv 2) (pv 4) YI rfl))))
    jw)))
  (jf (jx (jE (xJ rfl) (by rfl) T.BU Xi (ja (pv 2) jc)))))),?_⟩
 rotate_right 203
 have fl:=dr.1;exists Lm λd hd=>?_
 exists⟨jA,[(iK e,.bl true)],rfl,(by show 1<=15;decide),?_⟩;rw[LD];have O:cj H (upd H d (.dK (dN [] [(iK e,.bl true)]))):=Wu hd rfl;have e0:upd H d (.dK (dN [] [(iK e,.bl true)])) d=some (.dK [(iK e,.bl true)]):=jA;generalize upd H d (.dK (dN [] [(iK e,.bl true)]))=H0 at O e0|-;exists⟨(e:Int),-1,rfl,⟨⋯,⋯,⋯,⋯⟩,?_⟩;have en:((e:Int) - -1).toNat=e+1:=⋯
 rw[en];refine Hu (λi r R=>mq λ(o3 p:N3) (m:List (Key×V)) (S:L6)=>fC (r=[↥f,some (vN e),↥d,o3,p]) (cj H R) (R d=some (.dK m)) (KySet m S/\j1 o e i S))
  ⟨_,_,_,[e],rfl,O,e0,⟨rfl,by simp⟩,⟨λx v=>by rw[vo.mp v];exact .top,vo.mpr rfl,λy Z hi=>ub hi (by rw[vo.mp Z];lia)⟩⟩ ?_ ?_
 .rintro i r R hi ⟨o3,p,m,S,rfl,F,J,C,G⟩;obtain⟨y,Z⟩:∃y:Nat,(e:Int)-(i:Int)=(y:Int):=⟨e-i,⋯⟩
  have yi:y+i=e:=⋯
  rw[Z];have yk:o[y]?=some o[y]:=vz ⋯;let⟨fa,Y,X⟩:=dr.get yk;ac_nf;have g:=dA.k (k:=iK y) J;refine⟨d,_,rfl,g,?_⟩;rw[C.mem];refine⟨_,rfl,?_⟩;refine cH (λW=>?_) (λW=>?_)
  .exists cE (cm.of (F _ _ ef)) (jS (j:=y) (by rw[vv,Y];rfl)) ?_;exists⟨fa,_,rfl,X.same F,λb H1 s1 U=>?_⟩;rw[NA]at U;have eg:o.getD y (.hold 0)=o[y]:=by rw[vy,yk];rfl
   have cy:=G.yes D W yi;rw[eg]at cy;have n8:=D.l8 _ (getElem_mem ⋯:o[y]∈o);refine⟨b,rfl,⟨_,cJ.of U⟩,?_⟩;refine IP (xs:=o[y].ns.map vN) (λj r L=>gC λ(p:N3) (a:List (Key×V))=>kb (r=[↥f,some (vN e),↥d,some (.int (y:Nat)),p]) (∀c u,c≠d->H1 c=some u->L c=some u) (L d=some (.dK a)/\KySet a (lu S (o[y].ns.take j))))
    ⟨_,m,rfl,λc u _ h=>h,s1 _ _ J,C⟩ ?_ ?_ ?_
   .rintro j r L _ ⟨p,a,rfl,N,I,B⟩;exact cJ.of (N _ _ (Jz U (s1 _ _ J) (λz=>by cases z)) U)
   .rintro j x r L v ⟨p,a,rfl,N,I,B⟩;let⟨z,M,rfl,a1⟩:=tm v;have hj:=(vx.mp M).1;have kl:=B.len;have sl:⇑(lu S (o[y].ns.take j))<=e+1:=An B.2 λx v=>by
     rcases Zt.mp v with h | h
     .have:=(G.rc x h).le D;lia
     .have:=D.lt y _ yk x (mem_of_mem_take h);lia
    exists⟨d,_,rfl,gM.k (k:=iK z) I ⋯,?_⟩;refine⟨_,_,rfl,λc u n h=>(jg n).trans (N _ _ n h),jA,?_⟩;rw[take_snoc M,Gp];exact B.put z _
   rintro r L ⟨p,a,rfl,N,I,B⟩;rw[vt,v8]at B;exact⟨_,_,a,_,rfl,λc u h=>N _ _ (je h hd) (s1 _ _ (F _ _ h)),I,B,cy⟩
  .ac_nf;exact⟨_,_,m,S,rfl,F,J,C,G.no W yi⟩
 rintro r R ⟨o3,p,m,S,rfl,F,J,C,G⟩;have sl:⇑S<=e+1:=An C.2 λx v=>by have:=(G.rc x v).le D;lia
 exists⟨d,m,S.map (λn:Nat=>(n:Int)),rfl,J,by rw[C.1,uz];rfl,by rw[vt];lia,λl ms hl pm od=>?_⟩;let⟨ns,e1,I,e3⟩:=Fx pm od C.2;rw[e1];exact q l ns _ (F.trans (Wu hl rfl)) (none_of F hl) jA I λx=>(e3 x).trans G.all
def HC(T:Txt K mg t)(JL:1<*t.QI t.QK ["form","limbs","parts"] (fN))(a3:2<*t.Ar t.AS ["book"] (lG))(KM:2<*t.KY t.wa ["forms","drum"] (lF)):3<*t.XQ t.X4 ["book"] (iJ):=by
 specialize T.CQ.F.ok zM;let⟨b,pl,pp,a5,a6,r,D,rfl,B,W,n1,q⟩:=h;refine⟨_,(jb (cM 1 zM.nd (jq T.DT a3 hr (ja (pv 0) jc)))
  (jb (jp (i:=2) zM.nd rfl (.inr rfl) (jo jv (pv 1) jd))
  (jb (cM 3 zM.nd (jq T.xZ KM hr (ja (pv 2) (ja (jo jv (pv 1) jd) jc))))
  (jb (jp (i:=4) zM.nd rfl (.inr rfl) (FO rfl (by rfl) T.yG (by rfl) T.qJ (ja (jE jY (by rfl) T.JZ Jp (ja (jo jv (pv 0) jd) jc)) jc)))
  (jb (jp (i:=5) zM.nd rfl (.inr rfl) yg)
  (jb (Jd PassesOwn.never rfl (Wn (by rfl) T.ZK (ja (pv 3) jc)) (JG rfl (jB (cW 6 zM.nd) (jB (cW 7 zM.nd) Jl)))
   (jf (yQ (qp hr) (pv 5) (pv 7) (pv 6) rfl)))
  (jf (jx (jH (ja (Jn qt (by rfl) T.yG zU (ja (jo jv (pv 0) jd) jc)) (ja (JO (ow:=["number"]) (ci:=[4,5,2]) rfl (cq.of (cf Wp) ["book","found","forms","kept","limbs","anew","place","number"] rfl rfl ∅) (Qs nofun) (Ja (pv 3)) (λ_ _ _ _ _=>⟨(cW 0 (j6 ["book","found","forms","kept","limbs","anew","place","number"] rfl ∅)),qS,(jq T.ZF JL hr (ja (jo (Kn (K:=K) rfl) (pv 3) (pv 0)) (ja (pv 1) (ja (pv 2) jc))))⟩)) jc))))))))))),?_⟩
 rotate_right 107
 have O:=Ai W n1;have a4:=O.rA;have tp:=O.tp;have la:=B.la.1;have l8:=W.l8;exists⟨b,pl,pp,a5,a6,r,D,rfl,B,W,n1,λtt f a0 H1 s1 et ef dr=>?_⟩;exists cz et ?_;exists cz et ?_;exists⟨f,a0,cP r D,ip r D,rfl,ef,dr,O.dw,tp,a4,λl2 ms H2 s2 a8 N m1 m2=>?_⟩;have Z:Kept r D ms:=⟨m1,m2⟩
 have a9:=Z.len O;have nd:=Bf m1;have J:=s1.trans s2;exists NF ?_;exists cz (J _ _ B.t) ?_;refine⟨_,_,rfl,.inl ⟨_,cm.of (J _ _ B.l),rfl⟩,?_⟩;rw[vt,la];exists⟨⇑r,rfl,⋯,?_⟩;sleep 3;ac_nf;walk_at"f d4 hd4 H4 s4 t4";exists⟨l2,_,rfl,cm.of (s4 _ _ (s3 _ _ N)),?_⟩;refine Kk (xs:=ms.map vN) (λi σ F=>gC λ(o6 o7:N3)=>eS (σ=[↥b,↥tt,↥f,↥l2,↥p3,↥d4,o6,o7]) (cj H3 F/\F d4=some (.dK (ij (ms.take i))))) ⟨_,_,rfl,s4,t4⟩ ?_ ?_ ?_
 .rintro i σ F _ ⟨o6,o7,rfl,R,S⟩;exact cm.of (R _ _ (s3 _ _ N))
 .rintro i v σ F T' a7 hx ⟨o6,o7,rfl,R,S⟩ sP tP;let⟨m,C,rfl,I⟩:=tm hx;have hi:=(vx.mp C).1;have tl:⇑(ms.take i)=i:=by rw[vi];lia
  refine qH (cJ.of tP) ?_;exists⟨d4,_,rfl,gM.k (k:=iK m) (sP _ _ S) (by rw[Hy,tl];lia),?_⟩;have hk:iK m∉(ij (ms.take i)).map (·.1):=λz=>by
   rw[XB]at z;let⟨y,hy,e⟩:=vK.mp z;have e':=AU e;subst e';let⟨j,hj,e⟩:=mem_iff_getElem.mp hy;rw[tl]at hj;rw[getElem_take]at e;let⟨h2,N⟩:=vx.mp C;exact ub (e.trans N.symm) (pairwise_iff_getElem.mp nd j i ⋯ h2 hj)
  refine⟨_,_,rfl,λc u h=>(jg (je h hd4)).trans (sP _ _ (R _ _ h)),?_⟩;rw[jA,YJ hk,take_snoc C,G9,tl];rfl
 rintro S' H5 ⟨o6,o7,rfl,R,S⟩;rw[vt,v8]at S;have Y:=s3.trans R;have G:=J.trans Y;exists cz (G _ _ B.t) ?_;refine⟨pl,_,rfl,.inl (cm.of (G _ _ B.l)),?_⟩;sleep 6;have L:=Y.trans s6;have X:=G.trans s6;exists⟨l2,rfl,⟨_,cm.of (L _ _ N)⟩,?_⟩;refine JJ (xs:=ms.map vN) (λi ys F=>eD λ(o:L7)=>eS (ys=o.map V.ref) (cj H6 F/\hQ F o ((cX (cP r D) ms).take i))) ⟨[],rfl,cj.refl _,.nil⟩ ?_ ?_ ?_
 .rintro i ys F _ ⟨o,rfl,g,p⟩;exact cm.of (g _ _ (L _ _ N))
 .rintro i x ys F hx ⟨o,rfl,g,p⟩;let⟨m,C,rfl,I⟩:=tm hx;have hi:=(vx.mp C).1;have mt:=Z.lt O I;have mk:(cP r D)[m]?=some (cP r D)[m]:=vz ⋯;have eg:(cP r D).getD m (.hold 0)=(cP r D)[m]:=by rw[vy,mk];rfl
  let⟨fa,a2,a1⟩:=dr.get mk;have sH:=L.trans g;have U:=getElem_mem ⋯ (l:=cP r D) (n:=m);have gm:=ME (H:=F) (l:=p3) (an:=d4) (n:=⇑r) (ms:=ms) (d:=(cP r D)[m]) (g _ _ (s6 _ _ (R _ _ t3))) (g _ _ (s6 _ _ S)) nd (O.lm _ U) (λj hj=>Z.sub I (by rw[eg];exact hj)) (O.dw.l8 _ U);refine JW (S':=[none,some _,some _,some _]) rfl ?_;exists eB ?_;exists cE (cm.of (sH _ _ (s2 _ _ ef))) (jS (j:=m) (by rw[vv,a2];rfl)) ?_;exists⟨fa,p3,d4,_,_,rfl,(a1.same s2).same sH,gm,λc H7 s7 gc=>?_⟩;have dl:=p.1;rw[vi]at dl;refine⟨by rw[vt];lia,o++[c],by rw[vj];rfl,g.trans s7,?_⟩;rw[take_snoc (x:=rN (λn=>ms.idxOf n) (cP r D)[m]) (by unfold cX;rw[vv,C,<-eg];rfl)];exact cn.snoc (cn.mono p λa d h=>h.same s7) gc
 rintro ys F ⟨o,rfl,g,p⟩;have kl:⇑(cX (cP r D) ms)=⇑(ms.map vN):=by unfold cX;rw[vt,vt]
 rw[<-kl,v8]at p;have dl:=p.1;rw[kl,vt]at dl;refine⟨by rw[vt];lia,?_⟩;sleep 8;exists⟨uA,?_⟩;sleep 9;have aa:=g.trans s8;have M:=s8.trans s9;exact q p9 p6 p8 o ms H9 (X.trans (g.trans M)) t9 (M _ _ (g _ _ t6)) (s9 _ _ t8) (none_of G hp6) (none_of (X.trans g) hp8) (je (g _ _ t6) hp8) (cn.mono p λa d h=>h.same M) Z
def Gj(T:Txt K mg t):1<*t.YY t.Y0 ["number"] (Cs):=by
 refine T.Xb.F.ok yZ (λl H Q E h=>?_) (λf A e s H l Q E p h=>?_)
 .let⟨N,rfl,k,q⟩:=h;rfl
 let⟨N,rfl,k,q⟩:=h;refine⟨_,(jb (cM 1 yZ.nd (jo uK (qy (by rfl) T.Xj T.XF) (jr j3 (pv 0) jd)))
  (jb (CH PassesOwn.never (jt EG (pv 0) jd (cg _))
   (jb (cM 0 yZ.nd (jr Jj (pv 0) jd))
   (jf (cM 1 yZ.nd (jr yN (jo uK (qy (by rfl) T.Xj T.XF) (jr j3 (pv 0) jd)) (pv 1))))))
  (jf (jx (pv 1))))),?_⟩
 rotate_right 101
 have r:(200:Nat)<sizeLine:=by decide
 exists⟨_,_,_,rfl,rfl,∅,Ef ⋯ ⋯,?_⟩;exists⟨λn S' d=>gC λ(a:Nat) (b:Str)=>fC (S'=[some (.int (a:Nat)),some (.str b)]) (d=H) (n=a) ((a<26->b=iu N)/\(26<=a->a=N/\b=⟨#[97+N%26]⟩)),⟨N,N,_,rfl,rfl,rfl,λh=>?_,λh=>⟨rfl,?_⟩⟩,?_⟩
 .unfold iu;rw[vd h,show((N:Int)%26).toNat=N by lia]
 .rw[show((N:Int)%26).toNat=N%26 by lia]
 rintro n S' d ⟨a,b,rfl,rfl,m,g,j⟩;exists cH (λc=>?_) (λc=>?_)
 .let⟨o,rfl⟩:=j ⋯;refine⟨_,λS' d h=>h,?_⟩;exists⟨_,_,_,rfl,rfl,∅,Ef ⋯ ⋯,?_⟩;exists⟨_,_,rfl,rfl,(by show 1+1<=sizeLine;lia),?_⟩;refine⟨a/26,⋯,a/26,_,rfl,rfl,rfl,λh=>?_,λh=>ub h ⋯⟩;unfold iu;rw[vc ⋯,show((a:Int)/26%26).toNat=N/26 by lia];rfl
 .rw[g ⋯];ac_nf;exact q
def Gg(T:Txt K mg t)(JL:1<*t.QI t.QK ["form","limbs","parts"] (fN))(KQ:1<*t.YY t.Y0 ["number"] (Cs)):2<*t.KW t.K8 ["box"] (gX):=by
 specialize T.xY.F.ok kU;let⟨bx,l,f,D,N,ls,y,rfl,L,S,la,R,dr,O,q⟩:=h;refine⟨_,(jb (jp (i:=1) kU.nd rfl (.inr rfl) (JO (ow:=["name","height"]) (ci:=[]) rfl (cq.of (cf Zd) ["box","limbs","names"] rfl rfl ∅) (Y5 nofun nofun) (Ja (jo jv (pv 0) jd)) (λ_ _ _ _ _=>⟨(JG rfl (jB (cW 0 (j6 ["box","limbs","names"] rfl ∅)) (jB (cW 1 (j6 ["box","limbs","names"] rfl ∅)) Jl))),qS,(pv 0)⟩)))
  (jb (jp (i:=2) kU.nd rfl (.inr rfl) (JO (ow:=["number"]) (ci:=[]) rfl (cq.of (cf Zd) ["box","limbs","names"] rfl rfl ∅) (Qs nofun) (JK (by rfl) T.qJ (ja (jE jY (by rfl) T.JZ Jp (ja (jo jv (pv 0) jd) jc)) jc)) (λ_ _ _ _ _=>⟨(cW 0 (j6 ["box","limbs","names"] rfl ∅)),qS,(jq T.Xb KQ hr (ja (pv 0) jc))⟩)))
  (jf (jx (jH (ja (Jn qt (by rfl) T.yG zU (ja (jo jv (pv 0) jd) jc)) (ja (JO (ow:=["name","form"]) (ci:=[1,2]) rfl (cq.of (cf Zd) ["box","limbs","names"] rfl rfl ∅) (Y5 nofun nofun) (AH (by rfl) T.Bb (ja (pv 2) (ja (jo jv (pv 0) jd) jc))) (λ_ _ _ _ _=>⟨(JG rfl (jB (cW 0 (j6 ["box","limbs","names"] rfl ∅)) (jB (cW 1 (j6 ["box","limbs","names"] rfl ∅)) Jl))),qS,(jH (ja (pv 0) (ja (jq T.ZF JL hr (ja (pv 1) (ja (pv 2) (ja (pv 3) jc)))) jc)))⟩)) jc))))))),?_⟩
 rotate_right 102
 have a2:=O.rA;have l8:=O.l8;have a0:=la.1;have dl:=dr.1;have F:⇑(cb ls)=⇑ls:=vt _;exists cz L ?_;refine⟨l,rfl,⟨_,cm.of S⟩,?_⟩;refine JJ (xs:=D.map V.ref) (λi m e=>m=((cb ls).take i).map V.str/\H=e) ⟨rfl,rfl⟩ ?_ ?_ ?_
 .rintro i m e _ ⟨rfl,rfl⟩;exact cm.of S
 .rintro i x m e hx ⟨rfl,rfl⟩;let⟨a,p,rfl,hp,W⟩:=la.cR hx;have Y:=(vx.mp hp).1;refine JW (S':=[none,none]) rfl ?_;refine qH (cJ.of W) ?_;exists eB ?_;exists⟨by rw[vt,vi];lia,?_,rfl⟩;rw[take_snoc (x:=p.1) (by unfold cb;rw[vv,hp];rfl),vj];rfl
 rintro m e ⟨rfl,rfl⟩;have U:⇑(D.map V.ref)=⇑(cb ls):=by rw[vt,F];exact a0
 rw[U,v8];refine⟨by rw[vt,F];lia,?_⟩;sleep 1;exists cz (s1 _ _ L) ?_;refine⟨_,_,rfl,.inl ⟨_,cm.of (s1 _ _ R),rfl⟩,?_⟩;rw[vt,dl];exists⟨_,rfl,⋯,⋯,?_⟩;refine WK (λi m e=>m=(List.range i).map (λk=>V.str (iu k))/\H1=e) ⟨rfl,rfl⟩ ?_ ?_
 .rintro i m e Y ⟨rfl,rfl⟩;rw[show(0:Int)+(i:Nat)=(i:Nat)from ut _];refine JW (S':=[none]) rfl ?_;exists eB ?_;exists⟨i,rfl,⋯,?_⟩;refine⟨by rw[vt,length_range];lia,?_,rfl⟩;rw[range_succ,vj];rfl
 rintro m e ⟨rfl,rfl⟩;rw[show((⇑y:Nat):Int).toNat=⇑y from Int.toNat_natCast _];refine⟨by rw[vt,length_range];lia,?_⟩;sleep 2;have o:=s1.trans s2;exists cz (o _ _ L) ?_;refine⟨l,_,rfl,.inl (cm.of (o _ _ S)),?_⟩;sleep 3;have g:=o.trans s3;exists cz (g _ _ L) ?_;ac_nf;have z:=s3 _ _ t2;refine⟨p2,f,_,_,rfl,cm.of z,cm.of (g _ _ R),?_⟩;refine BX (xs:=(List.range ⇑y).map λk=>V.str (iu k)) (zs:=N.map V.ref) (λi m e=>eD λ(b:L7)=>eS (m=b.map V.ref) (cj H3 e/\cn (dG e) b ((eM ls y).take i))) (by rw[vt,vt,length_range];exact dl.symm) ⟨[],rfl,cj.refl _,.nil⟩ ?_ ?_ ?_
 .rintro i m e _ ⟨b,rfl,r,_⟩;exact⟨cm.of (r _ _ z),cm.of (r _ _ (g _ _ R))⟩
 .rintro i u v m e T' M hu hv ⟨b,rfl,r,B⟩ sP tP;rw[vv]at hu;let⟨k,Z,rfl⟩:=vg.mp hu;have Y:i<⇑y:=by
   have:=(vx.mp Z).1;rw[length_range]at this;exact this
  rw[List.getElem?_range Y]at Z;cases Z;let⟨a,d,rfl,X,gd⟩:=dr.cR hv;have sA:=r.trans sP;have a1:=g.trans sA;have C:=vm X;have pl:=B.1;rw[vi,yH]at pl;have gm:=Mn (H:=M) (l:=p1) (p:=p2) (ls:=ls) (d:=d) (n:=⇑y) (sA _ _ (s3 _ _ (s2 _ _ t1))) (sA _ _ z) (O.lm d C) (λj hj=>by have:=O.dw.lt i d X j hj;lia) (O.dw.l8 d C);refine JW (S':=[none,none,some _,some _]) rfl ?_;refine qH (cJ.of tP) ?_;exists eB ?_;exists⟨a,p1,p2,_,_,rfl,gd.same a1,gm,λc H4 s4 gc=>?_⟩;exists⟨uA,?_⟩;sleep 5;have sB:=sP.trans (s4.trans s5);refine⟨by rw[vt];lia,b++[p5],by rw[vj];rfl,r.trans sB,?_⟩;rw[take_snoc (Ax X)];exact cn.snoc (cn.mono B λa x h=>dG.same sB h) ⟨c,t5,WW.mpr (gc.same s5)⟩
 rintro m e ⟨b,rfl,r,B⟩;have kl:⇑(eM ls y)=⇑((List.range ⇑y).map λk=>V.str (iu k)):=by rw[yH,vt,length_range]
 rw[<-kl,v8]at B;have pl:=B.1;rw[yH]at pl;refine⟨by rw[vt];lia,?_⟩;sleep 6;exists⟨uA,?_⟩;sleep 7;have J:=s6.trans s7;have I:=r.trans J;have G:=g.trans I;exact q p7 p3 p6 b H7 G ⟨t7,I _ _ t3,la.mono λa x h=>G _ _ h,s7 _ _ t6,B.mono λa x h=>dG.same J h⟩ (none_of o hp3) (none_of (g.trans r) hp6) (je (r _ _ t3) hp6)
def HD(T:Txt K mg t)(j9:1<*t.qr t.qv ["named"] (df))(ze:1<*t.Zj t.Zn ["form"] (fZ)):2<*t.Ka t.Kh ["book"] (fQ):=by
 specialize T.Wi.F.ok YW;let⟨b,pl,pp,a1,I,ls,o,rfl,B,W,q⟩:=h;refine⟨_,(jb (jp (i:=1) YW.nd rfl (.inr rfl) (jq T.QN j9 hr (ja (jo jv (pv 0) jd) jc)))
  (jb (cM 2 YW.nd (jO jc))
  (jb (Jd PassesOwn.never rfl (Ja (jo jv (pv 0) jd)) (JG rfl (jB (cW 3 YW.nd) (jB (cW 4 YW.nd) Jl)))
   (jf (jV (qa q5 q7 iA jT (pv 2) (ja (JO (ow:=["other"]) (ci:=[1]) rfl (cq.of (cf Wr) ["book","numbers","found","name","form"] rfl rfl ∅) (Qs nofun) (xf (jq T.kB ze hr (ja (pv 4) jc))) (λ_ _ _ _ _=>⟨(cW 0 (j6 ["book","numbers","found","name","form"] rfl ∅)),qS,(Qu (qp hr) (pv 1) (pv 0))⟩)) jc)))))
  (jf (jx (pv 2)))))),?_⟩
 rotate_right 104
 have a2:=W.mJ;have pa:=B.pa.1;exists cz B.t ?_;exists⟨pp,I,cb o,rfl,B.p,by rw[cb,vt];exact pa,λi a x ea X=>?_,W.pn,by rw[cb,vt];lia,λd H1 J hd ed=>?_⟩
 .unfold cb at X;rw[vv]at X;let⟨p,ep,rfl⟩:=vg.mp X;let⟨fb,hb,_⟩:=B.pa.2 i a p ea ep;exact⟨_,hb⟩
 exists⟨va _,?_⟩;walk_at"f l hl H2 s2 t2";have nl:=none_of J hl;have L:=J.trans s2;exists cz (L _ _ B.t) ?_;refine⟨pp,rfl,⟨_,cm.of (L _ _ B.p)⟩,?_⟩;refine J2 (xs:=I.map V.ref) (λi σ f=>iX λ(m:L7) (O R:N3)=>fC (σ=[↥b,↥d,↥l,O,R]) (cj H1 f) (f l=some (.lst (m.map V.ref))) ((∀a∈m,H a=none/\a≠l)/\fX f m ((o.take i).map λp=>(cK o p.2).map λj:Nat=>(j:Int))))
  ⟨[],_,_,rfl,s2,t2,(λa h=>nomatch h),.nil⟩ ?_ ?_ ?_
 .rintro i σ f _ ⟨m,O,R,rfl,v,z,G,C⟩;exact cm.of ((J.trans v) _ _ B.p)
 .rintro i x σ f N ⟨m,O,R,rfl,v,z,G,C⟩;let⟨a,p,rfl,hp,fb,Z,hf⟩:=B.pa.cR N;have hi:=(vx.mp hp).1;have s0:=J.trans v;let⟨wn,w8⟩:=W.f i p hp;have a0:=C.1;rw[vt,vi]at a0;refine qH (cJ.of (s0 _ _ Z)) ?_;exists⟨.inl ⟨rfl,_,cm.of z⟩,?_⟩;exists⟨fb,gF p.2,rfl,WW.mp (cu.same s0 hf),λc D S M=>?_⟩;have M:D c=some (.tup (p.2.ns.map V.str)):=by rw[M];cases p.2<;>rfl
  refine⟨c,rfl,⟨_,cJ.of M⟩,?_⟩;refine Yv (xs:=p.2.ns.map V.str) (λj U f=>U=((p.2.ns.take j).map λx=>(cS (cb o) x:Int)).map V.int/\D=f) ⟨rfl,rfl⟩ ?_ ?_ ?_
  .rintro j U f _ ⟨rfl,rfl⟩;exact cJ.of M
  .rintro j x U f N ⟨rfl,rfl⟩;rw[vv]at N;let⟨y,Y,rfl⟩:=vg.mp N;have hj:=(vx.mp Y).1;let⟨k,hk,ek⟩:=wn y (vm Y);refine JW (S':=[none,some _]) rfl ?_;exists eB ?_;ac_nf;have g:dA D d (.str y) (some (.int (k:Nat))):=by
    have g:=dA.k (k:=Sum.inr y) ((v.trans S) _ _ ed);rw[YF W.pn ek]at g;exact g
   refine⟨d,_,rfl,g,?_⟩;refine⟨by rw[vt,vt,vi];lia,?_,rfl⟩;rw[take_snoc Y,vj,vj,<-Je W.pn ek];rfl
  rintro U f ⟨rfl,rfl⟩;rw[show(p.2.ns.map V.str).length=⇑p.2.ns from vt _,v8];refine⟨by rw[vt,vt];lia,?_⟩;sleep 4;have r:=S.trans s4;exists⟨l,_,_,rfl,rfl,r _ _ z,by rw[vt];lia,?_⟩;have F:p4≠l:=(je (S _ _ z) hp4).symm;have n4:H p4=none:=none_of (s0.trans S) hp4;refine⟨m++[p4],_,_,rfl,λc u h=>(jg (je h hl)).trans ((v.trans r) _ _ h),?_,λc n=>?_,?_⟩
  .rw[jA,vj];rfl
  .rcases vh.mp n with e | e
   .exact G c e
   .rw[vo.mp e];exact⟨n4,F⟩
  .rw[take_snoc hp,vj];refine cn.snoc (cn.mH C λc n ks h=>(jg (G c n).2).trans (r _ _ h)) ?_;have eq:List.map (λj:Nat=>(j:Int)) (cK o p.2)=p.2.ns.map λx=>(cS (cb o) x:Int):=by
    unfold cK;rw[uz];rfl
   show upd H4 l _ p4=some (.lst (List.map V.int (List.map (λj:Nat=>(j:Int)) (cK o p.2))));rw[jg F,t4,eq]
 rintro S' D ⟨m,O,R,rfl,v,z,G,C⟩;rw[vt,pa,v8]at C;ac_nf;exact q l m D (J.trans v) nl z (λa ha=>(G a ha).1) C
def LQ(T:Txt K mg t)(j9:1<*t.qr t.qv ["named"] (df))(zR:2<*t.Ka t.Kh ["book"] (fQ)):3<*t.XR t.X5 ["book"] (iy):=by
 specialize T.Aq.F.ok ZU;let⟨b,pl,pp,an,au,ls,ps,rfl,B,W,q⟩:=h;refine⟨_,(jb (cM 1 ZU.nd (jq T.QN j9 hr (ja (jo jv (pv 0) jd) jc)))
  (jb (cM 2 ZU.nd (jO jc))
  (jb (Jd PassesOwn.never rfl (AH (by rfl) T.Bb (ja (jo jv (pv 0) jd) (ja (jq T.Wi zR hr (ja (pv 0) jc)) jc))) (JG rfl (jB (cW 3 ZU.nd) (jB (cW 4 ZU.nd) Jl)))
   (jb (cM 5 ZU.nd (jo jv (pv 3) jd))
   (jb (cM 6 ZU.nd yg)
   (jb (Q2 (jt Jb (jo jv (pv 5) jd) jI (cg _))
    (jf (yQ (qp hr) (pv 6) (Qu (qp hr) (pv 1) (jo jv (pv 5) jd)) (jo jv (pv 5) jd) rfl))
    jw)
   (jb (Jd PassesOwn.never rfl (Ja (pv 4)) (cW 7 ZU.nd)
    (jf (jV (qa u4 PySem.F.slot_dict_update PySem.F.type_dict_update G7 (pv 6) (ja (Jn (FL rfl) (by rfl) T.Mm IA (ja (jo jz (pv 2) (pv 7)) jc)) jc)))))
   (jf (jV (qa q5 q7 iA jT (pv 2) (ja (jE (X2 rfl) (by rfl) T.BU Xi (ja (uQ u4 PySem.F.slot_dict_items PySem.F.type_dict_items Ic (pv 6)) jc)) jc)))))))))
  (jf (jx (pv 2)))))),?_⟩
 rotate_right 107
 have aK:=W.mJ;have l8:=W.l8;have pa:=B.pa.1;have la:=B.la.1;exists cz B.t ?_;exists⟨pl,an,cb ls,rfl,B.l,by rw[cb,vt];exact la,λi a x ea ex=>?_,W.ln,by rw[cb,vt];lia,λd H1 s1 hd ed=>?_⟩
 .unfold cb at ex;rw[vv]at ex;let⟨p,ep,rfl⟩:=vg.mp ex;exact⟨_,B.la.2 i a p ea ep⟩
 exists⟨va _,?_⟩;walk_at"f l hl H2 s2 t2";have nl:=none_of s1 hl;have ac:=s1.trans s2;have aD:d≠l:=je ed hl;exists cz (ac _ _ B.t) ?_;exists⟨b,pl,pp,an,au,ls,ps,rfl,B.same ac,W,λli am H3 s3 al af aF lia=>?_⟩;ac_nf;have F:=ac.trans s3;have ao:=lia.1;rw[vt]at ao;have aG:li≠l:=λz=>by rw[z,t2]at al;cases al
 refine⟨pp,li,_,_,rfl,cm.of (F _ _ B.p),cm.of af,?_⟩;have a9:∀{c u},H c=some u->c≠l:=λh=>je h nl
 have t3:H3 l=some (.lst []):=s3 _ _ t2;refine IQ (xs:=au.map V.ref) (ys:=am.map V.ref) (λi σ H'=>sE λ(X:L7) (E:L0) (o3 o4 o5 o6 O:N3)=>lJ (σ=[↥b,↥d,↥l,o3,o4,o5,o6,O]) (∀c u,c≠l->H3 c=some u->H' c=some u) (H' l=some (.lst (X.map V.ref))) (∀a∈X,H a=none/\a≠l) (⇑E=i) (me H' X E/\dF ls ps E))
  (by rw[vt,vt];lia) ⟨[],[],_,_,_,_,_,rfl,λc u _ h=>h,t3,(λa h=>nomatch h),rfl,.nil,λi p e _ h=>by simp at h⟩ ?_ ?_ ?_
 .rintro i σ H' _ ⟨X,E,o3,o4,o5,o6,O,rfl,sm,e1,na,lE,aE,oE⟩;exact⟨cm.of (sm _ _ (a9 B.p) (F _ _ B.p)),cm.of (sm _ _ aG af)⟩
 .rintro i u v σ H' P U hu hv ⟨X,E,o3,o4,o5,o6,O,rfl,sm,e1,na,lE,aE,oE⟩ sP tP;let⟨a,p,rfl,hp,fb,ag,hf⟩:=B.pa.cR hu;let⟨ia,is,rfl,ak,ay⟩:=lia.cR hv;rw[vv,hp]at ak;cases ak;have hi:=(vx.mp hp).1;have aA:ia∈am:=by
   rw[vv]at hv;let⟨a',ea,e'⟩:=vg.mp hv;injection e' with e';subst e';exact vm ea
  have aq:ia≠l:=λz=>by have:=aF ia aA;rw[z,t2]at this;cases this
  have C:∀c u,c≠l->H3 c=some u->U c=some u:=λc u Y h=>sP _ _ (sm _ _ Y h)
  have ah:U a=_:=C _ _ (a9 ag) (F _ _ ag);have Z:U ia=_:=C _ _ aq ay;have aw:U d=_:=C _ _ aD (s3 _ _ (s2 _ _ ed));have I:=sP _ _ e1;have a3:cu U fb p.2:=by
   have J:=cu.same F hf;generalize p.2=f at J;have np:∀{c:Addr} {xs:N2},H3 c=some (.tup xs)->c≠l:=λh=>Jz h t3 (λz=>by cases z)
   cases f with
   | row ps=>let⟨c,y,M⟩:=J;exact⟨c,C _ _ (np y) y,C _ _ (np M) M⟩
   | side ps=>let⟨c,y,M⟩:=J;exact⟨c,C _ _ (np y) y,C _ _ (np M) M⟩
   | hold n=>exact C _ _ (np J) J
   | ring x n=>exact C _ _ (np J) J
   | rise x g n=>exact C _ _ (np J) J
   | again x n=>exact C _ _ (np J) J
  have w8:=(W.f i p hp).2;have wr:=λx h n (e:p.2 = .rise x h n)=>W.r i p.1 x h n (by rw[hp,<-e])
  have aB:=λj=>W.cI (j:=j) hp
  have ad:=Kj W ⋯ oE;have ae:∀(j:Nat) (e:Np),E[j]?=some e->⇑e<=8:=λj e h=>B8 W ⋯ oE h
  refine qH (cJ.of tP) ?_;exists cz ah ?_;ac_nf;walk_at"f dl hdl H5 s5 t5";exists⟨λS' H6=>S'=[↥b,↥d,↥l,↥a,↥ia,↥fb,↥dl,O]/\cj U H6/\H6 dl=some (.dK ((rB ls p.2).map i6)),?_,?_⟩
  rotate_left
  .by_cases a6:∃x h n,p.2 = .rise x h n
   .let⟨x,h,n,e⟩:=a6;rw[e]at a3;have a4:H5 fb=some (.tup [.str "raise",.str x,.int h,.int n]):=s5 _ _ a3;let⟨j,N⟩:=wr x h n e;exists cz a4 ?_;exists cY ?_;exists cz a4 ?_;exists cz a4 ?_;have g:dA H5 d (.str x) (some (.int (j:Nat))):=by
     have g:=dA.k (k:=Sum.inr x) (s5 _ _ aw);rw[YF W.ln N]at g;exact g
    refine⟨d,_,rfl,g,?_⟩;refine⟨dl,_,rfl,gM.k (k:=Sum.inl (j:Int)) t5 (by show 0<sizeLine;lia),?_⟩;refine⟨rfl,λc u h=>(jg (je h hdl)).trans (s5 _ _ h),?_⟩;rw[jA,e];show _=some (HO.dK [i6 ((cS (cb ls) x:Nat),h)]);rw[Je W.ln N];rfl
   .let⟨k,xs,hk,dk⟩:=Ce a3 λx v n e=>a6 ⟨x,v,n,e⟩
    exists ez (cJ.of (s5 _ _ hk)) (iV) ?_;exists eN dk ?_;exists⟨rfl,s5,?_⟩;rw[Lg λx v n e=>a6 ⟨x,v,n,e⟩];exact t5
  rintro S' H6 ⟨rfl,s6,t6⟩;ac_nf;have ai:=s6 _ _ Z;have a8:∀{c u},U c=some u->c≠dl:=λh=>je h hdl
  refine⟨ia,rfl,⟨_,cm.of ai⟩,?_⟩;refine J2 (xs:=((cK ps p.2).map λj:Nat=>(j:Int)).map V.int) (λt σ H7=>gC λ(m:Np) (O:N3)=>nC (σ=[↥b,↥d,↥l,↥a,↥ia,↥fb,↥dl,O]) (cj U H7) (H7 dl=some (.dK (m.map i6))) ((m.map (·.1)).Nodup) (∀k v,(k,v)∈m↔fD E ((cK ps p.2).take t) k v\/(k,v)∈rB ls p.2))
   ⟨_,_,rfl,s6,t6,Nc _,λk v=>⟨.inr,λh=>h.elim (λ⟨ab,j,a1,e,_⟩=>by cases ab<;>simp at e) id⟩⟩ ?_ ?_ ?_
  .rintro t σ H7 _ ⟨m,O,rfl,G,t7,D,m7⟩;exact cm.of (G _ _ Z)
  .rintro t x σ H7 hx ⟨m,O,rfl,G,t7,D,m7⟩;rw[vv,vv]at hx;let⟨jj,az,rfl⟩:=vg.mp hx;let⟨j,N,rfl⟩:=vg.mp az;have aI:=aB j (vm N);have e0:rB ls p.2=[]:=by
    rcases Nb (ps:=ps) (ls:=ls) p.2 with z | z
    .rw[z]at N;simp at N
    .exact z
   rw[e0]at m7;have hE:E[j]?=some (E.getD j []):=by rw[vy,vz ⋯];rfl
   let⟨aj,ax,bs,a2,R⟩:=aE.get hE;have ap:((E.getD j []).map (·.1)).Nodup:=((oE j _ _ (vz ⋯) hE).1).imp λh=>Int.ne_of_lt h
   have e8:=ae j _ hE;have k8:⇑m<=8:=by
    have z:=Y6 (n:=⇑ls) D λk hk=>by
     let⟨L,a5,rfl⟩:=vK.mp hk;rcases(m7 L.1 L.2).mp a5 with⟨ab,i',a1,_,o,_⟩ | o
     .exact ad i' _ o
     .exact nomatch o
    rw[vt]at z;lia
   exists⟨.inr (.inr (.inl ⟨rfl,.inl ⟨_,t7⟩⟩)),?_⟩;exists cE (cm.of (G _ _ I)) (ZI (i:=(j:Int)) ⋯ ax) ?_;exists⟨aj,bs,E.getD j [],rfl,G _ _ (sP _ _ a2),R.1,λi' c L y M=>G _ _ (sP _ _ (R.2 i' c L y M)),?_⟩;walk_at"f d2 hd2 H8 s8 t8";ac_nf;rw[show([]:List (Key×V))=([]:Np).map i6 from rfl,kJ,Ge ap]at t8;have n2:dl≠d2:=je t7 hd2;refine⟨dl,d2,_,_,rfl,rfl,s8 _ _ t7,t8,n2,by rw[vt,vt];lia,?_⟩;rw[kJ];let⟨mn,mm⟩:=Xy D ap;refine⟨fJ m (E.getD j []),_,rfl,λc u h=>(jg (a8 h)).trans (s8 _ _ (G _ _ h)),jA,mn,λk v=>?_⟩;rw[mm,m7,e0,take_snoc N,GJ];constructor
   .rintro(h | ⟨y,h | h⟩)
    .exact .inl (.inl h)
    .exact .inl (.inr ⟨y,h⟩)
    .exact nomatch h
   .rintro((h | ⟨y,h⟩) | h)
    .exact .inl h
    .exact .inr ⟨y,.inl h⟩
    .exact nomatch h
  rintro S' H7 ⟨m,aJ,rfl,G,t7,D,m7⟩;rw[vt,vt,v8]at m7;have k8:⇑m<=8:=by
   have z:=Y6 (n:=⇑ls) D λk hk=>by
    let⟨L,a5,rfl⟩:=vK.mp hk;rcases(m7 L.1 L.2).mp a5 with⟨ab,i',a1,_,o,_⟩ | o
    .exact ad i' _ o
    .let⟨x,n,e,ek⟩:=Am.mp o;let⟨j,N⟩:=wr x _ n e;have h3:=Dt (vm N);have h4:⇑(cb ls)=⇑ls:=vt _;rw[ek];lia
   rw[vt]at z;lia
  exists⟨.inl ⟨rfl,_,cm.of (G _ _ I)⟩,?_⟩;exists⟨.inr (.inr (.inl ⟨rfl,.inl ⟨_,t7⟩⟩)),dl,_,rfl,rfl,t7,?_⟩;walk_at"f vw hvw H8 s8 t8";exists⟨vw,dl,m,rfl,t8,s8 _ _ t7,⋯,λr cs ms H9 s9 a7 e9 n9 a0 pw aC av=>?_⟩;ac_nf;have aH:=aE.1;refine⟨l,_,_,rfl,rfl,s9 _ _ (s8 _ _ (G _ _ I)),by rw[vt];lia,?_⟩;have S:=G.trans (s8.trans s9);have aa:r≠l:=(je (s8 _ _ (G _ _ I)) a7).symm;have nr:H r=none:=by
   cases z:H r with
   | none=>rfl
   | some u=>rw[s8 _ _ (G _ _ (C _ _ aa (F _ _ z)))]at a7;cases a7
  have ar:∀{c:Addr} {xs:N2},H9 c=some (.tup xs)->c≠l:=λh=>Jz h (S _ _ I) (λz=>by cases z)
  refine⟨X++[r],E++[ms],_,_,_,_,_,rfl,λc u Y h=>(jg Y).trans (S _ _ (C _ _ Y h)),?_,λc Y=>?_,by rw[vn,lE];rfl,?_,?_⟩
  .rw[jA,vj];rfl
  .rcases vh.mp Y with z | z
   .exact na c z
   .rw[vo.mp z];exact⟨nr,aa⟩
  .refine cn.snoc (cn.mH aE λc Y e h=>?_) ?_
   .let⟨bs,a2,R⟩:=h;refine⟨bs,(jg (na c Y).2).trans (S _ _ (sP _ _ a2)),cn.mono R λc' L h'=>?_⟩;have h9:=S _ _ (sP _ _ h');exact(jg (ar h9)).trans h9
   .exact⟨cs,(jg aa).trans e9,aC,λi' c L y M=>(jg (ar (av i' c L y M))).trans (av i' c L y M)⟩
  .refine dF.snoc W oE (p:=p) (by rw[lE];exact hp) ?_ λk v=>?_
   .exact GO (a0.map _) D pw
   .rw[a0.mem_iff,m7];exact⟨λh=>h.imp id Am.mp,λh=>h.imp id Am.mpr⟩
 rintro S' H' ⟨X,E,o3,o4,o5,o6,O,rfl,sm,e1,na,lE,aE,oE⟩;rw[vt]at lE;ac_nf;exact q l X E H' (λc u h=>sm _ _ (a9 h) (F _ _ h)) nl e1 (λa ha=>(na a ha).1) ⋯ aE oE
def HE(T:Txt K mg t)(KN:3<*t.XR t.X5 ["book"] (iy)):4<*t.XT t.X6 ["book"] (iN):=by
 specialize T.CT.F.ok xy;let⟨b,pl,pp,Y,a2,ls,ps,rfl,B,W,q⟩:=h;refine⟨_,(jb (cM 1 xy.nd (jO jc))
  (jb (Jd PassesOwn.never rfl (Ja (jq T.Aq KN hr (ja (pv 0) jc))) (cW 2 xy.nd)
   (jf (jV (qa q5 q7 iA jT (pv 1) (ja (JO (ow:=["limb","height"]) (ci:=[]) rfl (cq.of (cf Wt) ["book","found","left"] rfl rfl ∅) (Y5 nofun nofun) (Ja (pv 2)) (λ_ _ _ _ _=>⟨(JG rfl (jB (cW 0 (j6 ["book","found","left"] rfl ∅)) (jB (cW 1 (j6 ["book","found","left"] rfl ∅)) Jl))),qS,(pv 0)⟩)) jc)))))
  (jf (jx (pv 1))))),?_⟩
 rotate_right 102
 have a5:=W.mJ;exists⟨va _,?_⟩;walk_at"f l hl H1 s1 t1";exists⟨b,pl,pp,Y,a2,ls,ps,rfl,B.same s1,W,λe as E H2 s2 he ee ne lE aE oE=>?_⟩;have I:=aE.1;have a3:=s1.trans s2;have l2:H2 l=some (.lst []):=s2 _ _ t1;have a1:l≠e:=λz=>by rw[z,he]at t1;cases t1
 refine⟨e,rfl,⟨_,cm.of ee⟩,?_⟩;refine J2 (xs:=as.map V.ref) (λi σ n=>gC λ(g:L7) (F:N3)=>fC (σ=[↥b,↥l,F]) (∀c u,c≠l->H2 c=some u->n c=some u) (n l=some (.lst (g.map V.ref))) ((∀c∈g,H1 c=none/\c≠l)/\fX n g ((E.take i).map λe=>e.map (·.1))))
  ⟨[],_,rfl,λc u _ h=>h,l2,(λc h=>nomatch h),.nil⟩ ?_ ?_ ?_
 .rintro i σ n _ ⟨g,F,rfl,m,p,C,r⟩;exact cm.of (m _ _ a1.symm ee)
 .rintro i x σ n S ⟨g,F,rfl,m,p,C,r⟩;let⟨a,M,rfl,f,J,O,D⟩:=aE.cR S;have hi:=(vx.mp f).1;have X:=r.1;rw[vt,vi]at X;have am:a∈as:=by
   rw[vv]at S;let⟨a',ea,L⟩:=vg.mp S;injection L with L;subst L;exact vm ea
  have Z:a≠l:=λz=>by have:=ne a am;rw[z,t1]at this;cases this
  have v:n a=some (.lst (J.map V.ref)):=m _ _ Z O;have a4:=(oE i _ M (vz ⋯) f).1;have N:=B8 W ⋯ oE f;exists⟨.inl ⟨rfl,_,cm.of p⟩,?_⟩;exists⟨a,rfl,⟨_,cm.of v⟩,?_⟩;refine JJ (xs:=J.map V.ref) (λj G d=>G=((M.take j).map (·.1)).map V.int/\n=d) ⟨rfl,rfl⟩ ?_ ?_ ?_
  .rintro j G d _ ⟨rfl,rfl⟩;exact cm.of v
  .rintro j x G d U ⟨rfl,rfl⟩;let⟨c,kv,rfl,y,R⟩:=D.cR U;have hj:=(vx.mp y).1;have a0:c≠l:=λz=>by rw[z,l2]at R;cases R
   refine JW (S':=[none,none]) rfl ?_;refine qH (cJ.of (m _ _ a0 R)) ?_;exists eB ?_;exists⟨by rw[vt,vt,vi];lia,?_,rfl⟩;rw[take_snoc y,vj,vj];rfl
  rintro G d ⟨rfl,rfl⟩;rw[show(J.map V.ref).length=⇑M by rw[vt];exact D.1,v8];refine⟨by rw[vt,vt];lia,?_⟩;sleep 4;exists⟨l,_,_,rfl,rfl,s4 _ _ p,by rw[vt];lia,?_⟩;have o:p4≠l:=(je p hp4).symm;have n4:H1 p4=none:=by
   cases z:H1 p4 with
   | none=>rfl
   | some u=>rw[m _ _ o (s2 _ _ z)]at hp4;cases hp4
  refine⟨g++[p4],_,rfl,λc u k h=>(jg k).trans (s4 _ _ (m _ _ k h)),?_,λc k=>?_,?_⟩
  .rw[jA,vj];rfl
  .rcases vh.mp k with z | z
   .exact C c z
   .rw[vo.mp z];exact⟨n4,o⟩
  .rw[take_snoc f,vj];exact cn.snoc (cn.mH r λc k ks h=>(jg (C c k).2).trans (s4 _ _ h)) ((jg o).trans t4)
 rintro S' H3 ⟨g,F,rfl,m,p,C,r⟩;rw[vt,I,v8]at r;exists q l g (E.map λe=>e.map (·.1)) H3 (λc u h=>m _ _ (je h hl) (a3 _ _ h)) hl p (λc k=>none_of s1 (C c k).1) (by rw[vt];exact lE) r (El lE oE)
def xT(T:Txt K mg t):1<*t.zT t.zW ["row","moves","limbs"] (eX):=by
 specialize T.kZ.F.ok Z7;let⟨r,l,L,J,F,M,rfl,B,D,X,O,g,G,q⟩:=h;refine⟨_,(jb (jP (jt (Nj hr.units) (jO jc) (pv 1) (by with_unfolding_all rfl))
   (jf Zu)
   jw)
  (jf (Jd PassesOwn.never rfl (Wn (by rfl) T.ZK (ja (pv 2) jc)) (JG rfl (jB (ju (i:=3) Z7.nd rfl (.inr rfl)) (jB (cW 4 Z7.nd) Jl)))
   (jf (jP (jt kq (jE jY (by rfl) T.JZ Jp (ja (JO (ow:=["move"]) (ci:=[3]) rfl (cq.of (cf Za) ["row","moves","limbs","number","limb"] rfl rfl ∅) (Qs nofun) (Ja (pv 1)) (λ_ _ _ _ _=>⟨(cW 0 (j6 ["row","moves","limbs","number","limb"] rfl ∅)),(AG (jt (kN (K:=K) rfl) (pv 1) (pv 0) (by with_unfolding_all rfl))),YI⟩)) jc)) jd (cg _))
    (jf Zu)
    jw))))),?_⟩
 rotate_right 302
 have m:=D.1;exists⟨va _,?_⟩;sleep 0;exists⟨p0,l,J,M,rfl,rfl,t0,s0 _ _ B,m,λi b e R S=>s0 _ _ (D.2 i b e R S),?_⟩;exists eN (any_empty X) ?_;exists⟨L,_,rfl,cm.of (s0 _ _ g),?_⟩;refine Kk (xs:=F.map V.ref) (λi I f=>gC λ(p u:N3)=>I=[~~~r,↥l,↥L,p,u]/\cj H f) ⟨_,_,rfl,s0⟩ ?_ ?_ ?_
 .rintro i I f _ ⟨p,u,rfl,n⟩;exact cm.of (n _ _ g)
 .rintro i v I f P N hx ⟨p,u,rfl,n⟩ Y Z;have y:=n.trans Y;refine qH (cJ.of Z) ?_;exists⟨l,rfl,⟨_,cm.of (y _ _ B)⟩,?_⟩;refine JJ (xs:=J.map V.ref) (λj z c=>⇑z=⇑((M.take j).filter λe=>decide ((i:Int)∈e))/\N=c) ⟨rfl,rfl⟩ ?_ ?_ ?_
  .rintro j z c _ ⟨_,rfl⟩;exact cm.of (y _ _ B)
  .rintro j x z c C ⟨o,rfl⟩;let⟨a,e,rfl,k,U⟩:=D.cR C;refine JW (S':=[none,some _]) rfl ?_;exists⟨a,_,rfl,.inl (cm.of (y _ _ U)),rfl,pq e,?_⟩;rw[EZ];ac_nf;have W:⇑((M.take j).filter λe=>decide ((i:Int)∈e))<=8:=vW (length_filter_le _ _) (vW (List.length_take_le' _ _) O);refine cH (λd=>?_) (λd=>?_)
   .exists⟨⋯,?_,rfl⟩;rw[take_snoc k,filter_append,ux,vd (vG d),vn,vn,o];rfl
   .refine⟨?_,rfl⟩;rw[take_snoc k,filter_append,ux,vc #v[d],vn,o];rfl
  rintro z c ⟨o,rfl⟩;rw[vt,m,v8]at o;have o1:=G (i:Int);refine⟨⋯,?_⟩;sleep 2;exists⟨_,_,rfl,.inl ⟨_,cm.of t2,rfl⟩,?_⟩;exists cH (λd=>?_) (λd=>?_)
  .exfalso;lia
  .ac_nf;exact⟨_,_,rfl,y.trans s2⟩
 rintro S' f ⟨p,u,rfl,n⟩;exact q f n
def Fh(T:Txt K mg t):1<*t.ZG t.ZN ["form","inside"] (fu):=by
 specialize T.wN.F.ok Fs;let⟨a,l,f,j,rfl,d,i,e,q⟩:=h;refine⟨_,(jb (jP (jt Jb (jo jv (pv 0) jd) jI (cg _))
   (jf (jx (jE (K4 rfl) (by rfl) T.Ba AA (ja (pv 1) jc))))
   jw)
  (jb (jP (jt Jb (jo jv (pv 0) jd) jI (cg _))
   (jf (jx (jE (Xl rfl) (by rfl) T.A9 Az (ja (pv 1) jc))))
   jw)
  (jb (jP (jt Jb (jo jv (pv 0) jd) jI (cg _))
   (jf (jx (jr Q0 (jo jv (pv 0) jd) (jo jz (pv 1) jd))))
   jw)
  (jf (jx (jo jv (pv 0) (kr Z8 jd))))))),?_⟩
 rotate_right 200
 have B:(200:Nat)<sizeLine:=by decide
 cases f with
 | hold n=>
  have c:H a=some (.tup _):=d;exists cz c ?_;exists cv ?_;exists cz c ?_;exists cv ?_;exists cz c ?_;exists cv ?_;exists cz c ?_;exact q _ rfl
 | ring x n=>
  have c:H a=some (.tup _):=d;exists cz c ?_;exists cv ?_;exists cz c ?_;exists cv ?_;exists cz c ?_;exists cv ?_;exists cz c ?_;exact q _ rfl
 | rise x v n=>
  have c:H a=some (.tup _):=d;exists cz c ?_;exists cv ?_;exists cz c ?_;exists cv ?_;exists cz c ?_;exists cv ?_;exists cz c ?_;exact q _ rfl
 | row ps=>
  let⟨b,c,p⟩:=d;exists cz c ?_;exists cY ?_;exists⟨l,j,rfl,cm.of i,?_⟩;exact q _ rfl
 | side ps=>
  let⟨b,c,p⟩:=d;exists cz c ?_;exists cv ?_;exists cz c ?_;exists cY ?_;exists⟨l,j,rfl,cm.of i,length_pos_iff.mpr e,λg m o=>?_⟩;exact q g ⟨m,o⟩
 | again k x=>
  have c:H a=some (.tup _):=d;let⟨y,r,rfl,u,z,C,D⟩:=e;exists cz c ?_;exists cv ?_;exists cz c ?_;exists cv ?_;exists cz c ?_;exists cY ?_;exists cz c ?_;exists cE (cm.of i) (iV) ?_;ac_nf;exact q _ ⟨y,rfl,rfl⟩
def Gi(T:Txt K mg t)(zR:2<*t.Ka t.Kh ["book"] (fQ))(XO:4<*t.XT t.X6 ["book"] (iN))(yD:1<*t.zT t.zW ["row","moves","limbs"] (eX))(Yj:1<*t.ZG t.ZN ["form","inside"] (fu)):5<*t.KZ t.wb ["book"] (gy):=by
 specialize T.Xa.F.ok QE;let⟨b,pl,pp,Z,a7,ls,F,gs,hs,rfl,B,S,q⟩:=h;refine⟨_,(jb (jp (i:=1) QE.nd rfl (.inr rfl) (jq T.CT XO hr (ja (pv 0) jc)))
  (jb (jp (i:=2) QE.nd rfl (.inr rfl) (jO jc))
  (jb (Jd PassesOwn.never rfl (Wn (by rfl) T.ZK (ja (jq T.Wi zR hr (ja (pv 0) jc)) jc)) (JG rfl (jB (cW 3 QE.nd) (jB (cW 4 QE.nd) Jl)))
   (jb (cM 5 QE.nd (jo jv (jo jz (jo jv (pv 0) jd) (pv 3)) jd))
   (jb (Q2 (jt Jb (jo jv (pv 5) jd) jI (cg _))
    (jf (jV (jq T.kZ yD hr (ja (pv 3) (ja (JO (ow:=["part"]) (ci:=[1]) rfl (cq.of (cf yt) ["book","moves","found","row","inside","form","length"] rfl rfl ∅) (Qs nofun) (Ja (pv 4)) (λ_ _ _ _ _=>⟨(cW 0 (j6 ["book","moves","found","row","inside","form","length"] rfl ∅)),qS,(jo (Kn (K:=K) rfl) (pv 1) (pv 0))⟩)) (ja (jo jv (pv 0) jd) jc))))))
    jw)
   (jb (cM 6 QE.nd (jq T.wN Yj hr (ja (pv 5) (ja (JO (ow:=["part"]) (ci:=[2]) rfl (cq.of (cf yt) ["book","moves","found","row","inside","form","length"] rfl rfl ∅) (Qs nofun) (Ja (pv 4)) (λ_ _ _ _ _=>⟨(cW 0 (j6 ["book","moves","found","row","inside","form","length"] rfl ∅)),qS,(jo (Kn (K:=K) rfl) (pv 1) (pv 0))⟩)) jc))))
   (jb (jP (jt kq (pv 6) (jr zN jd jd) (cg _))
    (jf Zu)
    jw)
   (jf (jV (qa q5 q7 iA jT (pv 2) (ja (pv 6) jc)))))))))
  (jf (jx (pv 2)))))),?_⟩
 rotate_right 106
 have W:=S.w;have pa:=B.pa.1;have gl:=S.gl;have aw:=W.mJ;exists⟨b,pl,pp,Z,a7,_,_,rfl,B,W,λlm ab M H1 s1 ar ae av Ml aM oM=>?_⟩;have mg:=S.mv M Ml oM;have aq:=aM.1;exists⟨va _,?_⟩;walk_at"f l hl H2 s2 t2";have nl:=none_of s1 hl;have a8:=s1.trans s2;exists⟨b,pl,pp,Z,a7,_,_,rfl,B.same a8,W,λli a3 H3 s3 a2 a1 al lia=>?_⟩;ac_nf;have a9:=a8.trans s3;have ao:=s2.trans s3;have J:=lia.1;rw[vt]at J;have am:li≠l:=λz=>by rw[z,t2]at a2;cases a2
 have t3:H3 l=some (.lst []):=s3 _ _ t2;have a6:∀{c u},H c=some u->c≠l:=λh=>je h nl
 have an:∀{c u},H1 c=some u->c≠l:=λh=>je h hl
 refine⟨li,_,rfl,cm.of a1,?_⟩;refine Kk (xs:=a3.map V.ref) (λi σ r=>mq λ(o3 o4 o5 o6:N3)=>eS (σ=[↥b,↥lm,↥l,o3,o4,o5,o6]) ((∀c u,c≠l->H3 c=some u->r c=some u)/\r l=some (.lst ((gs.take i).map V.int))))
  ⟨_,_,_,_,rfl,λc u _ h=>h,t3⟩ ?_ ?_ ?_
 .rintro i σ r _ ⟨o3,o4,o5,o6,rfl,sm,e1⟩;exact cm.of (sm _ _ am a1)
 .rintro i v σ r P C hv ⟨o3,o4,o5,o6,rfl,sm,e1⟩ sP tP;let⟨X,as,rfl,O,ah⟩:=lia.cR hv;have hi:i<⇑F:=by
   have:=(vx.mp O).1;rw[vt]at this;exact this
  obtain⟨p,hp⟩:∃p,F[i]?=some p:=⟨_,vz hi⟩
  rw[vv,hp]at O;cases O;let⟨a,ea,fb,af,hf⟩:=B.pa.get hp;have aj:X∈a3:=by
   rw[vv]at hv;let⟨a',ad,e'⟩:=vg.mp hv;injection e' with e';subst e';exact vm ad
  have a5:X≠l:=λz=>by have:=al X aj;rw[z,t2]at this;cases this
  have k4:∀c u,c≠l->H3 c=some u->C c=some u:=λc u I h=>sP _ _ (sm _ _ I h)
  have y:∀c u,H c=some u->C c=some u:=λc u h=>k4 _ _ (a6 h) (a9 _ _ h)
  have a4:∀c u,H1 c=some u->C c=some u:=λc u h=>k4 _ _ (an h) (ao _ _ h)
  have o:C X=some (.lst (((cK F p.2).map λj:Nat=>(j:Int)).map V.int)):=k4 _ _ a5 ah;have ac:=sP _ _ e1;have m:cu C fb p.2:=cu.same y hf;have Y:=λj=>W.cI (j:=j) hp
  have w8:⇑(cK F p.2)<=8:=by unfold cK;rw[vt];exact(W.f i p hp).2
  let⟨lp,ak⟩:=S.ln i p hp;have au:=S.gb i hi;refine qH (cJ.of tP) ?_;exists cz (y _ _ B.t) ?_;exists cE (cm.of (y _ _ B.p)) (ZI (i:=(i:Int)) ⋯ ea) ?_;exists cz (y _ _ af) ?_;exists⟨λS' H5=>S'=[↥b,↥lm,↥l,~~~i,↥X,↥fb,o6]/\cj C H5,?_,?_⟩
  rotate_left
  .by_cases U:∃qs,p.2 = .side qs
   .let⟨qs,e⟩:=U;have ap:=S.sd i p qs hp e;generalize cK F p.2=is at o Y ap w8;rw[e]at m;let⟨nb,ag,_⟩:=m;exists cz ag ?_;exists cY ?_;exists⟨X,rfl,⟨_,cm.of o⟩,?_⟩;have aa:∀j∈is,∃c,ab[j]?=some c/\C c=some (.lst ((hs.getD j []).map V.int)):=λj D=>by
     have jl:=Y j D;let⟨c,I,h1⟩:=aM.get (i:=j) (x:=M.getD j []) (by rw[vy,vz ⋯];rfl);rw[mg j ⋯]at h1;exact⟨c,I,a4 _ _ h1⟩
    refine JJ (xs:=(is.map λj:Nat=>(j:Int)).map V.int) (λt G r=>eD λ(L:L7)=>eS (G=L.map V.ref) (fX C L ((is.take t).map λj=>hs.getD j [])/\C=r)) ⟨[],rfl,.nil,rfl⟩ ?_ ?_ ?_
    .rintro t G r _ ⟨L,rfl,lc,rfl⟩;exact cm.of o
    .rintro t x G r hx ⟨L,rfl,lc,rfl⟩;rw[vv,vv]at hx;let⟨jj,R,rfl⟩:=vg.mp hx;let⟨j,D,rfl⟩:=vg.mp R;let⟨c,I,h1⟩:=aa j (vm D);have a0:=lc.1;rw[vt,vi]at a0;refine JW (S':=[none,some _]) rfl ?_;exists eB ?_;exists cE (cm.of (a4 _ _ ae)) (ZI (i:=(j:Int)) ⋯ I) ?_;refine⟨by rw[vt];lia,L++[c],by rw[vj];rfl,?_,rfl⟩;rw[take_snoc D,vj];exact cn.snoc lc h1
    rintro G r ⟨L,rfl,lc,rfl⟩;rw[vt,vt,v8]at lc;have a0:=lc.1;rw[vt]at a0;refine⟨by rw[vt];lia,?_⟩;sleep 5;exists cz (s5 _ _ (y _ _ B.t)) ?_;exists⟨_,p5,pl,L,Z,(is.map λj=>hs.getD j []),rfl,t5,cn.mono lc λc ks h=>s5 _ _ h,λks ai=>?_,by rw[vt];lia,s5 _ _ (y _ _ B.l),ap.2,λH6 s6=>?_⟩
    .let⟨j,D,rfl⟩:=vK.mp ai;exact ap.1 j D
    ac_nf;exact⟨rfl,s5.trans s6⟩
   .have kd:∃k xs,C fb=some (.tup (.str k::xs))/\decide (k=("side" : Str))=false:=by
     generalize p.2=f at m U;cases f with
     | side qs=>exact ub ⟨qs,rfl⟩ U
     | hold n=>exact⟨_,_,m,by trivial⟩
     | ring x n=>exact⟨_,_,m,by trivial⟩
     | rise x v n=>exact⟨_,_,m,by trivial⟩
     | row qs=>let⟨_,h1,_⟩:=m;exact⟨_,_,h1,by trivial⟩
     | again k x=>exact⟨_,_,m,by trivial⟩
    let⟨k,xs,hk,dk⟩:=kd;exists ez (cJ.of hk) (iV) ?_;exists eN dk ?_;ac_nf;exact⟨rfl,cj.refl _⟩
  rintro S' H5 ⟨rfl,s5⟩;exists⟨X,rfl,⟨_,cm.of (s5 _ _ o)⟩,?_⟩;have N:=s5 _ _ ac;refine JJ (xs:=((cK F p.2).map λj:Nat=>(j:Int)).map V.int) (λt G r=>G=(((cK F p.2).take t).map λj=>gs∘j).map V.int/\H5=r) ⟨rfl,rfl⟩ ?_ ?_ ?_
  .rintro t G r _ ⟨rfl,rfl⟩;exact cm.of (s5 _ _ o)
  .rintro t x G r hx ⟨rfl,rfl⟩;rw[vv,vv]at hx;let⟨jj,R,rfl⟩:=vg.mp hx;let⟨j,D,rfl⟩:=vg.mp R;have jl:=Y j (vm D);refine JW (S':=[none,some _]) rfl ?_;exists eB ?_;exists cE (cm.of N) (Be ⋯ jl) ?_;refine⟨by rw[vt,vt,vi];lia,?_,rfl⟩;rw[take_snoc D,vj,vj];rfl
  rintro G r ⟨rfl,rfl⟩;rw[show(((cK F p.2).map λj:Nat=>(j:Int)).map V.int).length=⇑(cK F p.2) by rw[vt,vt],v8];refine⟨by rw[vt,vt];lia,?_⟩;sleep 6;exists⟨fb,p6,p.2,_,rfl,cu.same (s5.trans s6) m,t6,lp,λg hg=>?_⟩;have eg:=ak g hg;subst eg;exists cH (λd=>?_) (λd=>?_)
  .exfalso;lia
  exists⟨.inl ⟨rfl,_,cm.of (s6 _ _ N)⟩,?_⟩;exists⟨l,_,_,rfl,rfl,s6 _ _ N,by rw[vt,vi];lia,?_⟩;refine⟨_,_,_,_,rfl,λc u I h=>(jg I).trans (s6 _ _ (s5 _ _ (k4 _ _ I h))),?_⟩;rw[jA,Lc ⋯,vj];rfl
 rintro S' r ⟨o3,o4,o5,o6,rfl,sm,e1⟩;rw[vt,J,<-gl,v8]at e1;ac_nf;exact q l r (λc u h=>sm _ _ (a6 h) (a9 _ _ h)) nl e1
def Fi(T:Txt K mg t):1<*t.ZH t.ZO ["form","inside","sizes"] (fv):=by
 specialize T.wO.F.ok qz;let⟨a,l,s0,f,g,C,rfl,o,el,es,i8,hj,a2,q⟩:=h;refine⟨_,(jb (jP (jt Jb (jo jv (pv 0) jd) jI (cg _))
   (jb (cM 3 qz.nd (jo jz (pv 1) jd))
   (jb (cM 4 qz.nd (xb (jt kq (jo jv (pv 0) jd) jd (cg _)) (jO (ja (jH (ja (pv 3) (ja (jr qP (jo jv (pv 0) jd) jd) (ja (jo jz (pv 2) (pv 3)) jc)))) jc)) (jO jc)))
   (jf (jx (jr wz (jO (ja (jH (ja (pv 3) (ja jd (ja jd jc)))) jc)) (pv 4))))))
   jw)
  (jb (cM 5 qz.nd (jO jc))
  (jb (cM 6 qz.nd jd)
  (jb (Jd PassesOwn.never rfl (Ja (pv 1)) (cW 3 qz.nd)
   (jb (jV (qa q5 q7 iA jT (pv 5) (ja (jH (ja (pv 3) (ja jd (ja (pv 6) jc)))) jc)))
   (jf (jP (jt Jb (jo jv (pv 0) jd) jI (cg _))
    (jf (MA (i:=6) qz.nd rfl (.inl rfl) (jo jz (pv 2) (pv 3)) M0))
    jw))))
  (jf (jx (pv 5))))))),?_⟩
 rotate_right 304
 have S:∀j,j<⇑C->C[j]?=some (C∘j):=λj h=>by
  rw[vy,vz h];rfl
 by_cases ha:∃k x,f = .again k x
 .let⟨k,x,rfl⟩:=ha;have o:H a=some (.tup [.str "again",.int k,.str x]):=o;let⟨j,r,rfl⟩:=List.exists_cons_of_ne_nil (a2 k x rfl);have lj:=hj j vq;exists cz o ?_;exists cY ?_;exists cE (cm.of el) (iV) ?_;exists cz o ?_;exists cH (λc=>?_) (λc=>?_)
  .exists cz o ?_;exists cE (cm.of es) (jS (j:=j) (by rw[vv,S j lj];rfl)) ?_;exists⟨uB,?_⟩;sleep 1;exists⟨ua,?_⟩;sleep 2;exists⟨uB,?_⟩;sleep 3;exists⟨ua,?_⟩;sleep 4;exists⟨p4,p2,_,_,rfl,rfl,t4,s4 _ _ (s3 _ _ t2),uA,?_⟩;sleep 5;have O:=s1.trans (s2.trans (s3.trans (s4.trans s5)));refine q p5 [p3,p1] _ O (none_of (s1.trans (s2.trans (s3.trans s4))) hp5) t5 ?_;show hI H5 _ ((j,1,0)::(if 1<k then[(j,k-1,C∘j)]else[]));rw[vd c];exact .cons (s5 _ _ (s4 _ _ t3)) (.cons (s5 _ _ (s4 _ _ (s3 _ _ (s2 _ _ t1)))) .nil)
  .exists⟨va _,?_⟩;sleep 2;exists⟨uB,?_⟩;sleep 3;exists⟨ua,?_⟩;sleep 4;exists⟨p4,p2,_,_,rfl,rfl,t4,s4 _ _ (s3 _ _ t2),ua,?_⟩;sleep 5;have O:=s2.trans (s3.trans (s4.trans s5));refine q p5 [p3] _ O (none_of (s2.trans (s3.trans s4)) hp5) t5 ?_;show hI H5 _ ((j,1,0)::(if 1<k then[(j,k-1,C∘j)]else[]));rw[vc c];exact .cons (s5 _ _ (s4 _ _ t3)) .nil
 have a3:∃W xs,H a=some (.tup (.str W::xs))/\decide (W=("again" : Str))=false/\((decide (W=("row" : Str))=true/\∃xs,f = .row xs)\/(decide (W=("row" : Str))=false/\∀g,fh C f g=g.map λj=>(j,1,0))):=by
  cases f with
  | hold n=>exact⟨_,_,o,by trivial,.inr ⟨by trivial,λ_=>rfl⟩⟩
  | ring x n=>exact⟨_,_,o,by trivial,.inr ⟨by trivial,λ_=>rfl⟩⟩
  | rise x v n=>exact⟨_,_,o,by trivial,.inr ⟨by trivial,λ_=>rfl⟩⟩
  | row ps=>let⟨b,F,_⟩:=o;exact⟨_,_,F,by trivial,.inl ⟨by trivial,_,rfl⟩⟩
  | side ps=>let⟨b,F,_⟩:=o;exact⟨_,_,F,by trivial,.inr ⟨by trivial,λ_=>rfl⟩⟩
  | again k x=>exact ub ⟨k,x,rfl⟩ ha
 let⟨W,xs,Z,dk,y⟩:=a3;exists ez (cJ.of Z) (iV) ?_;exists eN dk ?_;exists⟨va _,?_⟩;walk_at"f p hp H1 s1 t1";ac_nf;have np:∀{c u},H c=some u->c≠p:=λh=>je h hp
 refine⟨l,rfl,⟨_,cm.of (s1 _ _ el)⟩,?_⟩;refine J2 (xs:=(g.map λj:Nat=>(j:Int)).map V.int) (λi σ I=>mq λ(o3:N3) (D:Int) (d:L7) (B:List Pc)=>lJ (σ=[↥a,↥l,↥s0,o3,none,↥p,~~~D]) (cj H I) (I p=some (.lst (d.map V.ref))) (⇑d=i) (hI I d B) (((∃xs,f = .row xs)->dn C g 0=B++dn C (g.drop i) D)/\(¬(∃xs,f = .row xs)->D=0/\B=(g.take i).map λj=>(j,1,0))))
  ⟨_,0,[],[],rfl,s1,t1,rfl,.nil,λ_=>rfl,λ_=>⟨rfl,rfl⟩⟩ ?_ ?_ ?_
 .rintro i σ I _ ⟨o3,D,d,B,rfl,X,J,la,hq,F,U⟩;exact cm.of (X _ _ el)
 .rintro i v σ I hv ⟨o3,D,d,B,rfl,X,J,la,hq,F,U⟩;rw[vv,vv]at hv;let⟨jj,a1,rfl⟩:=vg.mp hv;let⟨j,G,rfl⟩:=vg.mp a1;have il:=(vx.mp G).1;have ed:g.drop i=j::g.drop (i+1):=by
   let⟨h,rfl⟩:=vx.mp G;exact List.drop_eq_getElem_cons h
  have lj:=hj j (vm G);exists⟨.inl ⟨rfl,_,cm.of J⟩,?_⟩;exists⟨uB,?_⟩;sleep 2;exists⟨p,_,_,rfl,rfl,s2 _ _ J,by rw[vt];lia,?_⟩;have n2:p2≠p:=λz=>by rw[z,s2 _ _ J]at t2;cases t2
  have s3:cj H (upd H2 p (.lst (d.map V.ref++[.ref p2]))):=λc u h=>(jg (np h)).trans (s2 _ _ (X _ _ h))
  have e3:upd H2 p (.lst (d.map V.ref++[.ref p2])) p=some (.lst ((d++[p2]).map V.ref)):=by rw[jA,vj];rfl
  have M:hI (upd H2 p (.lst (d.map V.ref++[.ref p2]))) (d++[p2]) (B++[(j,1,D)]):=by
   refine cn.snoc (cn.mono hq λc x h=>?_) ((jg n2).trans t2);exact(jg (λz=>by rw[z,J]at h;cases h)).trans (s2 _ _ h)
  generalize upd H2 p (.lst (d.map V.ref++[.ref p2]))=H3 at s3 e3 M|-;exists ez (cJ.of (s3 _ _ Z)) (iV) ?_;ac_nf;rcases y with⟨Y,m,R⟩ | ⟨Y,L⟩
  .refine i7 Y ?_;exists cE (cm.of (s3 _ _ es)) (jS (j:=j) (by rw[vv,S j lj];rfl)) ?_;exists⟨_,_,d++[p2],B++[(j,1,D)],rfl,s3,e3,by rw[vn,la];rfl,M,λh=>?_,λh=>ub ⟨m,R⟩ h⟩;rw[F h,ed,List.append_assoc];rfl
  .refine eN Y ?_;exists⟨_,_,d++[p2],B++[(j,1,D)],rfl,s3,e3,by rw[vn,la];rfl,M,λh=>?_,λh=>?_⟩
   .let⟨m,R⟩:=h;subst R;have:=L [0,0];let⟨bb,a0,_⟩:=o;rw[a0]at Z;cases Z;exact ub Y ∅
   .let⟨b0,eq⟩:=U h;refine⟨b0,?_⟩;rw[take_snoc G,vj,eq,b0];rfl
 rintro S' I ⟨o3,D,d,B,rfl,X,J,la,hq,F,U⟩;rw[show((g.map λj:Nat=>(j:Int)).map V.int).length=⇑g by rw[vt,vt]]at F U;exists q p d I X hp J ?_;have e:fh C f g=B:=by
  by_cases N:∃xs,f = .row xs
  .let⟨m,rfl⟩:=N;show dn C g 0=B;rw[F ⟨m,rfl⟩,List.drop_length];exact append_nil _
  .rcases y with⟨_,m,R⟩ | ⟨_,L⟩
   .exact ub ⟨m,R⟩ N
   .rw[L,(U N).2,v8]
 rw[e];exact hq
def Fj(T:Txt K mg t)(zR:2<*t.Ka t.Kh ["book"] (fQ))(Yk:1<*t.ZH t.ZO ["form","inside","sizes"] (fv)):3<*t.Yp t.YB ["book","sizes"] (fw):=by
 specialize T.wP.F.ok Ft;let⟨b,pl,pp,s0,Z,C,ls,D,gs,rfl,B,W,es,gl,q⟩:=h;refine⟨_,(jf (jx (JO (ow:=["part","inside"]) (ci:=[1]) rfl (cq.of (cf ZT) ["book","sizes"] rfl rfl ∅) (Y5 nofun nofun) (AH (by rfl) T.Bb (ja (jo jv (pv 0) jd) (ja (jq T.Wi zR hr (ja (pv 0) jc)) jc))) (λj j j j j=>⟨(JG rfl (jB (cW 0 (j6 ["book","sizes"] rfl ∅)) (jB (cW 1 (j6 ["book","sizes"] rfl ∅)) Jl))),qS,(jq T.wO Yk hr (ja (jo (Le (K:=K) rfl) (pv 0) jd) (ja (pv 1) (ja (pv 2) jc))))⟩)))),?_⟩;refine jC (S':=[some _,some _]) rfl ?_
 try dsimp only[dJ,Cx.iw]
 have a3:=W.mJ;have pa:=B.pa.1;exists cz B.t ?_;exists⟨b,pl,pp,Z,C,ls,D,rfl,B,W,λli Y H3 F a0 n a2 lia=>?_⟩;ac_nf;have y:=lia.1;rw[vt]at y;refine⟨pp,li,_,_,rfl,cm.of (F _ _ B.p),cm.of n,?_⟩;refine BX (xs:=C.map V.ref) (zs:=Y.map V.ref) (λi J m=>eD λ(d:L7)=>fC (J=d.map V.ref) (⇑d=i) (cj H3 m) ((∀a∈d,H a=none)/\nG m d ((D.take i).map λp=>fh gs p.2 (cK D p.2)))) (by rw[vt,vt];lia) ⟨[],rfl,rfl,cj.refl _,(λa h=>nomatch h),.nil⟩ ?_ ?_ ?_
 .rintro i J m _ ⟨d,rfl,G,g,I,l⟩;exact⟨cm.of (g _ _ (F _ _ B.p)),cm.of (g _ _ n)⟩
 .rintro i u v J m T0 H4 hu hv ⟨d,rfl,G,g,I,l⟩ sP tP;have hi:=(vx.mp hu).1;rw[vt]at hi;let⟨a,p,rfl,r,fb,R,hf⟩:=B.pa.cR hu;let⟨ia,is,rfl,o,S⟩:=lia.cR hv;rw[vv,r]at o;cases o;have a1:=(vx.mp r).1;have s4:=g.trans sP;have f:=F.trans s4;have i8:⇑(cK D p.2)<=8:=by unfold cK;rw[vt];exact(W.f i p r).2
  refine JW (S':=[none,none,some _]) rfl ?_;refine qH (cJ.of tP) ?_;exists eB ?_;exists cz (f _ _ R) ?_;exists⟨fb,ia,s0,p.2,cK D p.2,gs,rfl,cu.same f hf,s4 _ _ S,f _ _ es,i8,λj hj=>by have:=W.cI r hj;lia,λk x e=>by rw[e];exact List.cons_ne_nil _ _,λp5 L H5 s5 U e5 X=>?_⟩;refine⟨by rw[vt];lia,d++[p5],by rw[vj];rfl,by rw[vn,G];rfl,s4.trans s5,λc hc=>(vh.mp hc).elim (I c) λz=>by rw[vo.mp z];exact none_of f U,?_⟩;rw[take_snoc r,vj];refine cn.snoc (cn.mono l λc x h=>?_) ⟨L,e5,X⟩;let⟨M,N,O⟩:=h;exact⟨M,s5 _ _ (sP _ _ N),cn.mono O λc x h=>s5 _ _ (sP _ _ h)⟩
 rintro J m ⟨d,rfl,G,g,I,l⟩;rw[vt]at G l;refine⟨by rw[vt];lia,?_⟩;sleep 4;refine q _ d _ (F.trans (g.trans s4)) (none_of (F.trans g) hp4) t4 ?_ I;rw[pa,v8]at l;refine cn.mono l λc x h=>?_
 let⟨M,N,O⟩:=h;exact⟨M,s4 _ _ N,cn.mono O λc x h=>s4 _ _ h⟩
def Kt(T:Txt K mg t)(j9:1<*t.qr t.qv ["named"] (df))(KN:3<*t.XR t.X5 ["book"] (iy))(KP:5<*t.KZ t.wb ["book"] (gy))(Yl:3<*t.Yp t.YB ["book","sizes"] (fw)):6<*t.J1 t.Qa ["self","book"] (gZ t.jD):=by
 specialize T.KJ.ok KB;let⟨a,r,b,pl,pp,j,I,Z,ps,gs,hs,rfl,ha,B,N,q⟩:=h;refine⟨_,(jb (Z4 (pv 0) (jq T.QN j9 hr (ja (jo jv (pv 1) jd) jc)) rfl)
  (jb (Z4 (pv 0) (JO (ow:=["name","height"]) (ci:=[]) rfl (cq.of (cf qb) ["self","book"] rfl rfl ∅) (Y5 nofun nofun) (Ja (jo jv (pv 1) jd)) (λ_ _ _ _ _=>⟨(JG rfl (jB (cW 0 (j6 ["self","book"] rfl ∅)) (jB (cW 1 (j6 ["self","book"] rfl ∅)) Jl))),qS,(pv 1)⟩)) rfl)
  (jb (Z4 (pv 0) (JO (ow:=["name","form"]) (ci:=[]) rfl (cq.of (cf qb) ["self","book"] rfl rfl ∅) (Y5 nofun nofun) (Ja (jo jv (pv 1) jd)) (λ_ _ _ _ _=>⟨(JG rfl (jB (cW 0 (j6 ["self","book"] rfl ∅)) (jB (cW 1 (j6 ["self","book"] rfl ∅)) Jl))),qS,(pv 1)⟩)) rfl)
  (jb (Z4 (pv 0) (jq T.Xa KP hr (ja (pv 1) jc)) rfl)
  (jb (Z4 (pv 0) (jq T.Aq KN hr (ja (pv 1) jc)) rfl)
  (jf (Z4 (pv 0) (jq T.wP Yl hr (ja (pv 1) (ja (Jk (pv 0) rfl) jc))) rfl))))))),?_⟩
 rotate_right 200
 have W:=N.s.w;have gl:=N.s.gl;have l8:=W.l8;have ae:=W.mJ;have la:=B.la.1;have ac:=B.pa.1;let⟨H0,M,n0,B0⟩:=B.less ha;have z0:cj H0 H:=M H λc u _ h=>h
 exists cz B.t ?_;exists⟨pl,j,cb Z,rfl,B.l,by rw[cb,vt];exact la,λi a x ea ex=>?_,W.ln,by rw[cb,vt];lia,λd H1 s1 hd ed=>?_⟩
 .unfold cb at ex;rw[vv]at ex;let⟨p,ep,rfl⟩:=vg.mp ex;exact⟨_,B.la.2 i a p ea ep⟩
 exists⟨a,_,r,[],rfl,s1 _ _ ha,T.jU,T.Qq,(by show 0<1000;decide),?_⟩;have nd:d≠a:=λz=>by rw[z,ha]at hd;cases hd
 generalize e2:upd H1 a _=H2;have k2:∀c u,c≠a->H1 c=some u->H2 c=some u:=λc u n h=>e2▸(jg n).trans h
 have a2:=Qn e2;clear e2;have z2:cj H0 H2:=M H2 λc u n h=>k2 _ _ n (s1 _ _ h)
 have B2:=B0.same z2;exists cz B2.t ?_;exists⟨pl,rfl,⟨_,cm.of B2.l⟩,?_⟩;refine JJ (xs:=j.map V.ref) (λi L y=>L=((Z.map (·.2)).take i).map V.int/\H2=y) ⟨rfl,rfl⟩ ?_ ?_ ?_
 .rintro i L y _ ⟨rfl,rfl⟩;exact cm.of B2.l
 .rintro i v L y hv ⟨rfl,rfl⟩;let⟨a,p,rfl,hp,U⟩:=B2.la.cR hv;have hi:=(vx.mp hp).1;refine JW (S':=[none,none]) rfl ?_;refine qH (cJ.of U) ?_;exists eB ?_;exists⟨by rw[vt,vi,vt];lia,?_,rfl⟩;rw[take_snoc (show(Z.map (·.2))[i]?=some p.2 by rw[vv,hp];rfl),vj];rfl
 rintro L y ⟨rfl,rfl⟩;rw[show(j.map V.ref).length=⇑(Z.map (·.2)) by rw[vt,vt];exact la,v8];refine⟨by rw[vt,vt];lia,?_⟩;sleep 3;exists⟨a,_,r,_,rfl,s3 _ _ a2,T.jU,T.zu,zy (Jy _ _ _) nofun,?_⟩;have n3:p3≠a:=λz=>by rw[z,a2]at hp3;cases hp3
 generalize e4:upd H3 a _=H4;have k4:∀c u,c≠a->H3 c=some u->H4 c=some u:=λc u n h=>e4▸(jg n).trans h
 have a4:=Qn e4;clear e4;have z4:cj H0 H4:=λc u h=>k4 _ _ (n0 h) (s3 _ _ (z2 _ _ h))
 have B4:=B0.same z4;exists cz B4.t ?_;exists⟨pp,rfl,⟨_,cm.of B4.p⟩,?_⟩;refine JJ (xs:=I.map V.ref) (λi L y=>eD λ(f:L7)=>eS (L=f.map V.ref) (cn (λa p=>cu H4 a p.2) f (ps.take i)/\H4=y)) ⟨[],rfl,.nil,rfl⟩ ?_ ?_ ?_
 .rintro i L y _ ⟨f,rfl,O,rfl⟩;exact cm.of B4.p
 .rintro i v L y hv ⟨f,rfl,O,rfl⟩;let⟨a',p,rfl,hp,fb,U,hf⟩:=B4.pa.cR hv;have hi:=(vx.mp hp).1;have a5:=O.1;rw[vi]at a5;refine JW (S':=[none,none]) rfl ?_;refine qH (cJ.of U) ?_;exists eB ?_;exists⟨by rw[vt];lia,f++[fb],by rw[vj];rfl,?_,rfl⟩;rw[take_snoc hp];exact cn.snoc O hf
 rintro L y ⟨f,rfl,O,rfl⟩;rw[vt,ac,v8]at O;have fl:=O.1;refine⟨by rw[vt];lia,?_⟩;sleep 5;exists⟨a,_,r,_,rfl,s5 _ _ a4,T.jU,T.JV,vD (Jy _ _ _) (vD (Nat.succ_le_succ (Jy _ _ _)) nofun),?_⟩;have n5:p5≠a:=λz=>by rw[z,a4]at hp5;cases hp5
 generalize e6:upd H5 a _=H6;have k6:∀c u,c≠a->H5 c=some u->H6 c=some u:=λc u n h=>e6▸(jg n).trans h
 have a6:=Qn e6;clear e6;have z6:cj H0 H6:=λc u h=>k6 _ _ (n0 h) (s5 _ _ (z4 _ _ h))
 exists⟨b,pl,pp,j,I,Z,ps,gs,hs,rfl,B0.same z6,N.s,λl7 H7 s7 X e7=>?_⟩;exists⟨a,_,r,_,rfl,s7 _ _ a6,T.jU,T.Jg,Aa,?_⟩;have n7:l7≠a:=λz=>by rw[z,a6]at X;cases X
 generalize e8:upd H7 a _=H8;have k8:∀c u,c≠a->H7 c=some u->H8 c=some u:=λc u n h=>e8▸(jg n).trans h
 have a8:=Qn e8;clear e8;have z8:cj H0 H8:=λc u h=>k8 _ _ (n0 h) (s7 _ _ (z6 _ _ h))
 exists⟨b,pl,pp,j,I,Z,ps,rfl,B0.same z8,W,λl9 as E H9 s9 Y e9 na lE aE oE=>?_⟩;exists⟨a,_,r,_,rfl,s9 _ _ a8,T.jU,T.zY,Ab,?_⟩;have n9:l9≠a:=λz=>by rw[z,a8]at Y;cases Y
 generalize S:upd H9 a _=H10;have C:∀c u,c≠a->H9 c=some u->H10 c=some u:=λc u n h=>S▸(jg n).trans h
 have g:=Qn S;clear S;have ad:cj H0 H10:=λc u h=>C _ _ (n0 h) (s9 _ _ (z8 _ _ h))
 have w7:∀c u,c≠a->H7 c=some u->H10 c=some u:=λc u n h=>C _ _ n (s9 _ _ (k8 _ _ n h))
 exists⟨a,_,r,_,_,rfl,g,T.jU,T.Jg,(Jq ∅).trans Zq,?_⟩;exists⟨b,pl,pp,l7,j,I,Z,ps,gs,rfl,B0.same ad,W,w7 _ _ n7 e7,gl,λF m l J o a7 a0 a1=>?_⟩;exists⟨a,_,r,_,rfl,J _ _ g,T.jU,T.qO,Ac,?_⟩;have a9:F≠a:=λz=>by rw[z,g]at o;cases o
 have D:∀c u,c≠a->l c=some u->upd l a (.ins t.jD r (iZ ⟨d,p3,p5,l7,l9,F,f,as,m⟩)) c=some u:=λc u n h=>(jg n).trans h
 have u9:∀c u,c≠a->H9 c=some u->upd l a (.ins t.jD r (iZ ⟨d,p3,p5,l7,l9,F,f,as,m⟩)) c=some u:=λc u n h=>D _ _ n (J _ _ (C _ _ n h))
 have u7:∀c u,c≠a->H7 c=some u->_=some u:=λc u n h=>u9 _ _ n (s9 _ _ (k8 _ _ n h))
 have u5:∀c u,c≠a->H5 c=some u->_=some u:=λc u n h=>u7 _ _ n (s7 _ _ (k6 _ _ n h))
 have u3:∀c u,c≠a->H3 c=some u->_=some u:=λc u n h=>u5 _ _ n (s5 _ _ (k4 _ _ n h))
 have u1:∀c u,c≠a->H1 c=some u->_=some u:=λc u n h=>u3 _ _ n (s3 _ _ (k2 _ _ n h))
 have nq:∀{c:Addr} {xs:N2},l c=some (.lst xs)->c≠a:=λh z=>by rw[z,J _ _ g]at h;cases h
 have ab:∀{c:Addr} {xs:N2},l c=some (.tup xs)->c≠a:=λh z=>by rw[z,J _ _ g]at h;cases h
 have nt:∀{c:Addr} {xs:N2},H9 c=some (.tup xs)->c≠a:=λh z=>by rw[z,s9 _ _ a8]at h;cases h
 have nl:∀{c:Addr} {xs:N2},H9 c=some (.lst xs)->c≠a:=λh z=>by rw[z,s9 _ _ a8]at h;cases h
 have aa:∀{c:Addr} {xs:N2},H4 c=some (.tup xs)->c≠a:=λh z=>by rw[z,a4]at h;cases h
 have R:∀{G:Hp} {u0:HO} {c:Addr},G a=some u0->(∀c u,c≠a->H c=some u->G c=some u)->G c=none->H c=none:=λ{G u0 c} ga k n=>by
  cases e:H c with
  | none=>rfl
  | some u=>
   by_cases z:c=a
   .rw[z,ga]at n;cases n
   .rw[k _ _ z e]at n;cases n
 have w2:∀c u,c≠a->H c=some u->H2 c=some u:=λc u n h=>k2 _ _ n (s1 _ _ h)
 have w4:∀c u,c≠a->H c=some u->H4 c=some u:=λc u n h=>k4 _ _ n (s3 _ _ (w2 _ _ n h))
 have w6:∀c u,c≠a->H c=some u->H6 c=some u:=λc u n h=>k6 _ _ n (s5 _ _ (w4 _ _ n h))
 have w8:∀c u,c≠a->H c=some u->H8 c=some u:=λc u n h=>k8 _ _ n (s7 _ _ (w6 _ _ n h))
 have a3:∀c u,c≠a->H c=some u->H10 c=some u:=λc u n h=>C _ _ n (s9 _ _ (w8 _ _ n h))
 exact q ⟨d,p3,p5,l7,l9,F,f,as,m⟩ E _ (λc u n h=>u1 _ _ n (s1 _ _ h)) ⟨⟨r,jA⟩,u1 _ _ nd ed,u3 _ _ n3 t3,u5 _ _ n5 t5,cn.mono O λc p h=>cu.put (λb xs hb=>u5 _ _ (aa hb) (s5 _ _ hb)) h,u7 _ _ n7 e7,u9 _ _ n9 e9,lE,
  cn.mono aE λc e ⟨bs,h1,h2⟩=>⟨bs,u9 _ _ (nl h1) h1,cn.mono h2 λb q h=>u9 _ _ (nt h) h⟩,oE,D _ _ a9 a7,cn.mono a0 λc e ⟨bs,h1,h2⟩=>⟨bs,D _ _ (nq h1) h1,cn.mono h2 λb q h=>D _ _ (ab h) h⟩⟩ ⟨hd,R a2 w2 hp3,R a4 w4 hp5,R a6 w6 X,R a8 w8 Y,R g a3 o,λc h=>R a8 w8 (na c h),λc h=>R g a3 (a1 c h)⟩
def kg(T:Txt K mg t)(KL:2<*t.KW t.K8 ["box"] (gX))(za:6<*t.J1 t.Qa ["self","book"] (gZ t.jD)):8<*t.Jc t.Jr ["self","box"] (fi t.jy t.jD):=by
 specialize T.kE.ok kj;let⟨m,a,bx,l,f,g,y,I,Y,O,hs,rfl,R,et,el,la,ef,dr,Bx,N,q⟩:=h;refine⟨_,(jb (Z4 (pv 0) (Wm T.Iu (za.mono nofun) hr (by rfl) T.Ib T.KH .nil cZ (ja (jq T.xY KL hr (ja (pv 1) jc)) jc)) rfl)
  (jb (Z4 (pv 0) (jo jz (Jk (Jk (pv 0) rfl) rfl) (kr Z8 jd)) rfl)
  (jf (Z4 (pv 0) jd rfl)))),?_⟩
 rotate_right 200
 have nm:∀{c:Addr} {xs:N2},H c=some (.lst xs)->c≠m:=λh z=>by rw[z,R]at h;cases h
 exists⟨bx,l,f,g,y,I,Y,rfl,et,el,la,ef,dr,Bx,λb pl pp J L j B1 _ _ _=>?_⟩;ac_nf;intro o B p F ne;have r:cj L (upd (upd L B (.own o)) o (.ins t.jD B [])):=λc u h=>(jg (je h p)).trans ((jg (je h F)).trans h)
 have d:=j _ _ R;refine⟨o,B,b,pl,pp,g,J,I,_,O,hs,rfl,jA,B1.same r,N,λz E k S Z nz=>⟨rfl,?_⟩⟩;have i:m≠o:=je d p;have e:k m=some (.ins t.jy a []):=S _ _ i (r _ _ d);have G:∀c u,H c=some u->k c=some u:=λc u h=>S _ _ (je (j _ _ h) p) (r _ _ (j _ _ h))
 exists⟨m,_,a,[],rfl,e,T.jG,T.Jx,(by show 0<1000;decide),?_⟩;generalize C:upd k m _=H4;have x:=Qn C;have U:∀c u,c≠m->k c=some u->H4 c=some u:=λc u n h=>C▸(jg n).trans h
 clear C;have v:=Z.but e i U;let⟨dz,oz⟩:=v.ob;exists⟨m,_,a,_,_,rfl,x,T.jG,T.Jx,Zq,?_⟩;exists⟨o,_,dz,_,_,rfl,oz,T.jU,T.Jg,Zc,?_⟩;exists cE (cm.of v.hs) (CU N.ne N.s.gl) ?_;exists⟨m,_,a,_,rfl,x,T.jG,T.J3,(by show 1<1000;decide),?_⟩;generalize D:upd H4 m _=H5;have M:=Qn D;have W:∀c u,c≠m->H4 c=some u->H5 c=some u:=λc u n h=>D▸(jg n).trans h
 clear D;exists⟨m,_,a,_,rfl,M,T.jG,T.Jf,(by show 2<1000;decide),?_⟩;have X:∀c u,c≠m->H5 c=some u->upd H5 m (.ins t.jy a (lz o (O∘(⇑(eM I Y)-1)) 0)) c=some u:=λc u n h=>(jg n).trans h
 refine q o z E _ (λc u n h=>X _ _ n (W _ _ n (U _ _ n (G _ _ h)))) (none_of j p) ⟨⟨a,jA⟩,(v.but x i W).but M i X,i⟩ ((nz.less r).less j)
def wy(T:Txt K mg t):dO P w K mg base (iq P w) 1 t.j5 t.j7 ["self","beat"] (Cq t.jy t.jD t.jZ):=by
 refine T.Yg.EO Yb (λo H Q E h=>?_) (λd A a s H o Q E p h=>?_)
 .let⟨m,l,z,i,k,f,E0,n,b,rfl,A,g,q⟩:=h;rfl
 let⟨m,l,z,i,k,f,E0,n,b,rfl,A,g,q⟩:=h;refine⟨_,(Zv (EJ (xt (xq wU wU jd (pv 1) (Jk (pv 0) rfl)))
   (Zv (CN PySem.F.excBase_ValueError ⟨rfl,rfl,rfl,rfl⟩ (by rfl) T.wv T.yx))
   XH)),?_⟩
 refine XG (S':=[some _,some _]) rfl ?_;let⟨e,j⟩:=A.ob;refine Er ?_;exists cH (λc=>?_) (λc=>?_)
 .exists⟨m,_,e,_,_,rfl,j,T.jG,T.J3,wg,?_⟩;exists mx (λz=>?_) (λz=>ub z ⋯);exact q
 .exact⟨false,rfl,q⟩
def wY(T:Txt K mg t):1<*t.j5 t.j7 ["self","beat"] (fR t.jy t.jD):=by
 specialize T.Yg.ok Yb;let⟨m,k,z,i,j,g,E,l,b,rfl,A,e,f,q⟩:=h;refine⟨_,(jb (jP (xt (xq wU wU jd (pv 1) (Jk (pv 0) rfl)))
   (jf Zu)
   jw)
  (jf (Z4 (pv 0) (pv 1) rfl))),?_⟩
 rotate_right 200
 let⟨a,d⟩:=A.ob;exists cH (λZ=>?_) (λc=>ub e c);exists⟨m,_,a,_,_,rfl,d,T.jG,T.J3,wg,?_⟩;exists mx (λz=>ub f z) (λZ=>?_);exists⟨m,_,a,_,rfl,d,T.jG,T.Jf,(by show 3<1000;decide),?_⟩;rw[Ca];refine q _ (λc u n h=>(jg n).trans h) ⟨⟨a,jA⟩,A.sg.but d A.ne λc u n h=>(jg n).trans h,A.ne⟩
def LS(T:Txt K mg t):1<*t.XU t.X7 ["start","goal","beats","j"] (Pr.Df):=by
 refine T.DU.F.ok Lw (λf H Q E h=>?_) (λd A a s H f Q E i h=>?_)
 .let⟨e,g,b,j,rfl,c,q⟩:=h;rfl
 let⟨e,g,b,j,rfl,c,q⟩:=h;refine⟨_,(jf (jx (jr jR (pv 0) (jr Jj (jr Q0 (jr qP (pv 1) (pv 0)) (pv 3)) (pv 2))))),?_⟩;refine jC (S':=[some _,some _,some _,some _]) rfl ?_
 try dsimp only[dJ,Cx.iw]
 unfold Pr.B4 at c;ac_nf;exact q
def FJ(T:Txt K mg t):1<*t.Zk t.Zo ["pieces","sizes","gone"] (eQ):=by
 specialize T.kC.F.ok qT;let⟨l,s0,b,bs,O,a,rfl,S,W,U,q8,ok,t1,t2,q⟩:=h;refine⟨_,(jb (cM 3 qT.nd (jO jc))
  (jb (Jd PassesOwn.never rfl (Ja (pv 0)) (JG rfl (jB (cW 4 qT.nd) (jB (cW 5 qT.nd) (jB (cW 6 qT.nd) Jl))))
   (jf (jP (jt wU (pv 6) (pv 2) (cg _))
    (jb (cM 7 qT.nd (jE (YZ rfl) (by rfl) T.uS X0 (ja (jr Jj (jr qP (pv 2) (pv 6)) (jo jz (pv 1) (pv 4))) (ja (pv 5) jc))))
    (jb (cM 8 qT.nd (xb (jt Ya (pv 7) (pv 5) (cg _)) (jr qP (jr qP (pv 2) (pv 6)) (jr Q0 (pv 7) (jo jz (pv 1) (pv 4)))) wB))
    (jf (jV (qa q5 q7 iA jT (pv 3) (ja (jH (ja (pv 4) (ja (pv 6) (ja (pv 7) (ja (pv 8) jc))))) jc))))))
    jw)))
  (jf (jx (pv 3))))),?_⟩
 rotate_right 306
 have B:∀j,j<⇑a->a[j]?=some (a∘j):=λj h=>by
  rw[vy,vz h];rfl
 have bl:=W.1;exists⟨va _,?_⟩;walk_at"f p hp H1 s1 e1";have Y:∀{c u},H c=some u->c≠p:=λh=>je h hp
 exists⟨l,rfl,⟨_,cm.of (s1 _ _ S)⟩,?_⟩;refine J2 (xs:=bs.map V.ref) (λi R m=>sD λ(F G I J L:N3) (d:L7)=>fC (R=[↥l,↥s0,~~~b,↥p,F,G,I,J,L]) (cj H m) (m p=some (.lst (d.map V.ref))) (⇑d<=i/\nF m d (dS a b (O.take i))))
  ⟨_,_,_,_,_,[],rfl,s1,e1,vb _,.nil⟩ ?_ ?_ ?_
 .rintro i R m _ ⟨F,G,I,J,L,d,rfl,k,e,X,n⟩;exact cm.of (k _ _ S)
 .rintro i v R m hv ⟨F,G,I,J,L,d,rfl,k,e,X,n⟩;let⟨c,x,rfl,N,hc⟩:=W.cR hv;have hi:=(vx.mp N).1;have C:=ok x (vm N);have D:=C;let⟨Z,g1,g2,n1,n2,b1,b2⟩:=D;have g:dS a b (O.take (i+1))=dS a b (O.take i)++(dD a b x).toList:=by
   rw[take_snoc N];unfold dS;rw[List.filterMap_append];congr 1
  refine Eo (cJ.of (k _ _ hc)) ?_;exists cH (λr=>?_) (λr=>?_)
  .have a1:=Eb C r;exists cE (cm.of (k _ _ U)) (jS (j:=x.1) (by rw[vv,B _ Z];rfl)) ?_;ac_nf;have eo:(if x.2.1<(b-x.2.2)/a∘x.1 then x.2.1 else(b-x.2.2)/a∘x.1)=ov a b x:=rfl;have a0:(if(b-x.2.2)/a∘x.1>x.2.1 then x.2.1 else(b-x.2.2)/a∘x.1)=ov a b x:=rfl;refine⟨_,_,rfl,?_⟩;rw[eo];exists cH (λM=>?_) (λM=>?_)
   .exists cE (cm.of (k _ _ U)) (jS (j:=x.1) (by rw[vv,B _ Z];rfl)) ?_;exists⟨.inl ⟨rfl,_,cm.of e⟩,?_⟩;exists⟨uC,?_⟩;walk_at"f 2 e";exists⟨p,_,_,rfl,rfl,s2 _ _ e,by rw[vt];lia,?_⟩;have o:p2≠p:=λz=>by rw[z,s2 _ _ e]at e2;cases e2
    refine⟨_,_,_,_,_,d++[p2],rfl,λc u h=>(jg (Y h)).trans (s2 _ _ (k _ _ h)),by rw[jA,vj];rfl,by rw[vn];show ⇑d+1<=_;lia,?_⟩;have f:dD a b x=some (x.1,x.2.2,ov a b x,some (b-x.2.2-ov a b x*a∘x.1)):=by
     unfold dD;rw[vd r,vd M]
    rw[g,f];refine cn.snoc (cn.mono n λc y h=>?_) ((jg o).trans e2);exact(jg (λz=>by rw[z,e]at h;cases h)).trans (s2 _ _ h)
   .exists⟨.inl ⟨rfl,_,cm.of e⟩,?_⟩;exists⟨uC,?_⟩;walk_at"f 2 e";exists⟨p,_,_,rfl,rfl,s2 _ _ e,by rw[vt];lia,?_⟩;have o:p2≠p:=λz=>by rw[z,s2 _ _ e]at e2;cases e2
    refine⟨_,_,_,_,_,d++[p2],rfl,λc u h=>(jg (Y h)).trans (s2 _ _ (k _ _ h)),by rw[jA,vj];rfl,by rw[vn];show ⇑d+1<=_;lia,?_⟩;have f:dD a b x=some (x.1,x.2.2,ov a b x,none):=by
     unfold dD;rw[vd r,vc M]
    rw[g,f];refine cn.snoc (cn.mono n λc y h=>?_) ((jg o).trans e2);exact(jg (λz=>by rw[z,e]at h;cases h)).trans (s2 _ _ h)
  .exists⟨_,_,_,_,_,d,rfl,k,e,⋯,?_⟩;have f:dD a b x=none:=by
    unfold dD;rw[vc r]
   rw[g,f];show nF m d (_++[]);rw[append_nil];exact n
 rintro S' m ⟨F,G,I,J,L,d,rfl,k,e,X,n⟩;rw[vt,bl,v8]at n;ac_nf;exact q p d m k hp e n
def He(T:Txt K mg t)(zf:1<*t.Zk t.Zo ["pieces","sizes","gone"] (eQ)):2<*t.WA t.WL ["pieces","sizes","gone"] (g9):=by
 specialize T.BQ.F.ok Ze;let⟨l,S,n,bs,C,gs,rfl,el,hq,Y,q8,ok,t1,t2,q⟩:=h;refine⟨_,(jb (cM 3 Ze.nd (jO jc))
  (jb (Jd PassesOwn.never rfl (Ja (jq T.kC zf hr (ja (pv 0) (ja (pv 1) (ja (pv 2) jc))))) (JG rfl (jB (cW 4 Ze.nd) (jB (cW 5 Ze.nd) (jB (cW 6 Ze.nd) (jB (cW 7 Ze.nd) Jl)))))
   (jb (Q2 (jt kq (pv 6) jd (cg _))
    (jf (jV (qa q5 q7 iA jT (pv 3) (ja (jH (ja (pv 4) (ja (jo jz (pv 1) (pv 4)) jc))) jc))))
    jw)
   (jf (jP (jt DG (pv 7) wB (cg _))
    (jf (jV (qa q5 q7 iA jT (pv 3) (ja (jH (ja (pv 4) (ja (pv 7) jc))) jc))))
    jw))))
  (jf (jx (pv 3))))),?_⟩
 rotate_right 305
 have a0:∀j,j<⇑gs->gs[j]?=some (gs∘j):=λj h=>by
  rw[vy,vz h];rfl
 exists⟨va _,?_⟩;walk_at"f p hp H1 s1 e1";have np:∀{c u},H c=some u->c≠p:=λh=>je h hp
 exists⟨l,S,n,bs,C,gs,rfl,s1 _ _ el,cn.mono hq λc x h=>s1 _ _ h,s1 _ _ Y,q8,ok,t1,t2,λl2 W H2 s2 J e2 G=>?_⟩;have a4:=Dy (gs:=gs) (t:=n) C;have U:=G.1;have a1:l2≠p:=λz=>by rw[z,e1]at J;cases J
 have D:=s2 _ _ e1;exists⟨l2,rfl,⟨_,cm.of e2⟩,?_⟩;refine J2 (xs:=W.map V.ref) (λi σ f=>ql λ(M N O R:N3) (e:L7)=>fC (σ=[↥l,↥S,~~~n,↥p,M,N,O,R]) (∀c u,c≠p->H2 c=some u->f c=some u) (f p=some (.lst (e.map V.ref))) (⇑e<=2*i/\fB f e (((dS gs n C).take i).flatMap (fx gs))))
  ⟨_,_,_,_,[],rfl,λc u _ h=>h,D,vb _,.nil⟩ ?_ ?_ ?_
 .rintro i σ f _ ⟨M,N,O,R,e,rfl,m,g,la,B⟩;exact cm.of (m _ _ a1 e2)
 .rintro i v σ f hv ⟨M,N,O,R,e,rfl,m,g,la,B⟩;let⟨c,y,rfl,hy,b⟩:=G.cR hv;have hi:=(vx.mp hy).1;have a2:c≠p:=λz=>by rw[z,D]at b;cases b
  let⟨x,hx,ex⟩:=Ks (vm hy);have y1:y.1<⇑gs:=by rw[xj ex];exact(ok x hx).1
  have k:((dS gs n C).take (i+1)).flatMap (fx gs)=((dS gs n C).take i).flatMap (fx gs)++fx gs y:=by
   rw[take_snoc hy,flatMap_append,flatMap_cons,List.flatMap_nil,append_nil]
  have Z:f S=some (.lst (gs.map V.int)):=m _ _ (np Y) (s2 _ _ (s1 _ _ Y));refine AK (cJ.of (m _ _ a2 b)) ?_;exists⟨λS' H3=>eD λ(a:L7)=>fC (S'=[↥l,↥S,~~~n,↥p,some (.int (y.1:Nat)),~~~y.2.1,~~~y.2.2.1,some (oR y.2.2.2)]) (∀c u,c≠p->f c=some u->H3 c=some u) (H3 p=some (.lst (a.map V.ref))) (⇑a<=2*i+1/\fB H3 a (((dS gs n C).take i).flatMap (fx gs)++(if 0<y.2.2.1 then[(y.1,gs∘y.1)]else[]))),?_,?_⟩
  rotate_left
  .exists cH (λX=>?_) (λX=>?_)
   .exists⟨.inl ⟨rfl,_,cm.of g⟩,?_⟩;exists cE (cm.of Z) (jS (j:=y.1) (by rw[vv,a0 _ y1];rfl)) ?_;exists⟨uA,?_⟩;walk_at"f p2 hp2 H3 s3 e3";exists⟨p,_,_,rfl,rfl,s3 _ _ g,by rw[vt];lia,?_⟩;have o:p2≠p:=λz=>by rw[z,s3 _ _ g]at e3;cases e3
    refine⟨e++[p2],rfl,λc u b h=>(jg b).trans (s3 _ _ h),by rw[jA,vj];rfl,by rw[vn];show ⇑e+1<=_;lia,?_⟩;rw[vd X];refine cn.snoc (cn.mono B λc y h=>?_) ((jg o).trans e3);exact(jg (λz=>by rw[z,g]at h;cases h)).trans (s3 _ _ h)
   .exists⟨e,rfl,λc u _ h=>h,g,⋯,?_⟩;rw[vc X,append_nil];exact B
  rintro S' H3 ⟨a,rfl,L,d,a3,I⟩;have F:fx gs y=(if 0<y.2.2.1 then[(y.1,gs∘y.1)]else[])++(match y.2.2.2 with | some r=>[(y.1,r)] | none=>[]):=rfl;cases er:y.2.2.2 with
  | none=>
   exists⟨rfl,_,rfl,?_⟩;refine eN (by simp[oR]) ?_;exists⟨_,_,_,_,a,rfl,λc u b h=>L _ _ b (m _ _ b h),d,⋯,?_⟩;rw[k,F,er,append_nil];exact I
  | some r=>
   exists⟨rfl,_,rfl,?_⟩;refine i7 (by simp[oR]) ?_;exists⟨.inl ⟨rfl,_,cm.of d⟩,?_⟩;exists⟨uA,?_⟩;walk_at"f p2 hp2 H4 s4 e4";exists⟨p,_,_,rfl,rfl,s4 _ _ d,by rw[vt];lia,?_⟩;have o:p2≠p:=λz=>by rw[z,s4 _ _ d]at e4;cases e4
   refine⟨_,_,_,_,a++[p2],rfl,λc u b h=>(jg b).trans (s4 _ _ (L _ _ b (m _ _ b h))),by rw[jA,vj];rfl,by rw[vn];show ⇑a+1<=_;lia,?_⟩;rw[k,F,er,<-List.append_assoc];refine cn.snoc (cn.mono I λc y h=>?_) ((jg o).trans e4);exact(jg (λz=>by rw[z,d]at h;cases h)).trans (s4 _ _ h)
 rintro S' f ⟨M,N,O,R,e,rfl,m,g,la,B⟩;rw[vt,U,v8]at B;ac_nf;exact q p e f (λc u h=>m _ _ (np h) (s2 _ _ (s1 _ _ h))) hp g B
def W8(T:Txt K mg t)(Wz:2<*t.WA t.WL ["pieces","sizes","gone"] (g9)):3<*t.qD t.qF ["self","beat"] (fk t.jD):=by
 specialize T.xH.ok JH;let⟨a,z,O,ps,gs,hs,E,t0,rfl,A,N,t1,t2,q⟩:=h;refine⟨_,(jb (jP (xt (xq wU wU jd (pv 1) (jo jz (Jk (pv 0) rfl) (kr Z8 jd))))
   (jf Zu)
   jw)
  (jb (cM 2 JH.nd (Jn qt (by rfl) T.yG zU (ja (Jk (pv 0) rfl) jc)))
  (jb (cM 3 JH.nd (jO jc))
  (jb (cM 4 JH.nd (jO (ja (jH (ja (jr qP (jE jY (by rfl) T.JZ Jp (ja (Jk (pv 0) rfl) jc)) jd) (ja (pv 1) jc))) jc)))
  (jb (CH PassesOwn.never (MD (pv 4) (λ_=>rfl))
   (jb (cM 5 JH.nd (uQ q5 PySem.F.slot_list_pop PySem.F.type_list_pop Nf (pv 4)))
   (jf (jP (jt Ya (jo jv (pv 5) jd) (jo jz (Jk (pv 0) rfl) (jo jv (pv 5) jd)) (cg _))
    (jb (jV (qa q5 q7 iA jT (pv 3) (ja (pv 5) jc)))
    (jf (jV (qa q5 PySem.F.slot_list_extend PySem.F.type_list_extend G5 (pv 4) (ja (Ec (jq T.BQ Wz hr (ja (jo jz (Jk (pv 0) rfl) (jo jv (pv 5) jd)) (ja (Jk (pv 0) rfl) (ja (jo jv (pv 5) jd) jc)))) (Qe (kr Z8 jd))) jc)))))
    (jf (Jd PassesOwn.never rfl (Ja (jo jz (Jk (pv 0) rfl) (jo jv (pv 5) jd))) (JG rfl (jB (cW 6 JH.nd) (jB (cW 7 JH.nd) Jl)))
     (jf (yP (pv 7) (kP (pv 2) (pv 6) set_list)))))))))
  (jf (jx (jH (ja (pv 2) (ja (pv 3) jc)))))))))),?_⟩
 rotate_right 206
 have W:=N.s.w;have gl:=N.s.gl;have ne:=N.ne;have b1:=W.mJ;have lE:=A.el;have M8:∀i,i<⇑ps->⇑(hs.getD i [])<=8:=λi hi=>LK W N.hl N.m (W0 N.s N.hl hi)
 have ad:ft (gs.map V.int) (-1)=some (.int (gs∘(⇑ps-1))):=CU ⋯ (by rw[gl]);have aQ:∀j,j<⇑ps->gs[j]?=some (gs∘j):=λj h=>N.Be h
 let⟨dx,ob⟩:=A.ob;exists cH (λ_=>?_) (λc=>ub t1 c);exists⟨a,_,dx,_,_,rfl,ob,T.jU,T.Jg,Zc,?_⟩;exists cE (cm.of A.hs) (ad) ?_;exists mx (λz=>ub t2 z) (λ_=>?_);exists⟨a,_,dx,_,_,rfl,ob,T.jU,T.zu,GC,?_⟩;exists⟨z.f,_,rfl,.inl (cm.of A.hf),?_⟩;walk_at"f 1 e";exists⟨va _,?_⟩;walk_at"f 2 e";have aj:=s1.trans s2;exists⟨a,_,dx,_,_,rfl,aj _ _ ob,T.jU,T.Jg,Zc,?_⟩;exists⟨_,_,rfl,.inl ⟨_,cm.of (aj _ _ A.hs),rfl⟩,?_⟩;rw[vt,gl];exists⟨uA,?_⟩;walk_at"f 3 e";exists⟨ua,?_⟩;walk_at"f 4 e";rw[show((⇑ps:Nat):Int)-1=((⇑ps-1:Nat):Int) by lia]at e3;have aI:=aj.trans s3;have aW:=aI.trans s4;have af:p1≠p2:=je e1 hp2;have ag:p1≠p4:=je (s3 _ _ (s2 _ _ e1)) hp4;have ah:p2≠p4:=je (s3 _ _ e2) hp4;have m1:∀{c u},H c=some u->c≠p1:=λh=>je h hp1
 have m2:∀{c u},H c=some u->c≠p2:=λh=>je (s1 _ _ h) hp2
 have m4:∀{c u},H c=some u->c≠p4:=λh=>je (aI _ _ h) hp4
 have aH:=N.nodes M8 (i:=⇑ps-1) (t:=t0) ⋯ t1;have aK:∀h∈O.map (·.2),0<=h/\h<=10^18:=λh hh=>by
  let⟨q0,aS,rfl⟩:=vK.mp hh;exact N.Bl q0 aS
 exists⟨λm σ B=>nD λ(o5 J L:N3) (d g:L7) (D P S:L3)=>kb (σ=[↥a,~~~t0,↥p1,↥p2,↥p4,o5,J,L]) (sO O ps gs E t0 H B p1 p2 p4 d g D P S) (P++S.reverse.flatMap (λx=>mz ps gs x.1 x.2)=mz ps gs (⇑ps-1) t0/\m=(S.map λx=>nodes ps gs x.1 x.2).sum),
  ⟨_,none,none,none,[],[p3],[],[],[(⇑ps-1,t0)],rfl,⟨aW,s4 _ _ (s3 _ _ (s2 _ _ e1)),s4 _ _ (s3 _ _ e2),e4,.nil,cn.snoc (as:=[]) (xs:=[]) .nil (s4 _ _ e3),by simp,λx hx=>by rw[vo.mp hx];exact⟨by show ⇑ps-1<_;lia,t1⟩,rfl,(λx hx=>nomatch hx),#v[aH],by show(O.map (·.2)).length=_;rw[vt],aK⟩,by simp,rfl⟩,?_⟩
 rintro m σ B ⟨o5,J,L,d,g,D,P,S,rfl,Sc,a0,rfl⟩;let⟨sm,am,ao,eT,gP,gT,G,hS,hP,bP,aM,ll,hb⟩:=Sc;have a7:⇑S<=(S.map λx=>nodes ps gs x.1 x.2).sum:=Eu λx _=>XA (ps:=ps) (gs:=gs) x.1 x.2
 have pl:=gP.1;have tl:=gT.1;exists⟨_,.inl ⟨_,cm.of eT,rfl⟩,?_⟩;rcases List.eq_nil_or_concat S with rfl | ⟨S0,x,rfl⟩
 .have et:g=[]:=List.length_eq_zero_iff.mp tl;subst et;refine gq ?_;ac_nf;rw[show([]:L3).reverse.flatMap (λx=>reach ps gs x.1 x.2)=[]from rfl,append_nil]at G;subst G;have b0:([].map λx:Nat×Int=>nodes ps gs x.1 x.2).sum=0:=rfl;refine⟨uA,?_⟩;walk_at"f 5 e";exact q p5 p1 p2 d P H5 (sm.trans s5) hp1 (none_of s1 hp2) e5 (s5 _ _ am) ll hb (s5 _ _ ao) af (cn.mono gP λc y h=>s5 _ _ h) ⋯ bP hP #v[a0]
 rw[List.concat_eq_append]at *;let⟨b,l,rfl,ay,aB⟩:=cn.last gT;rw[vj]at eT|-;refine i7 (by simp) ?_;let⟨x1,x2⟩:=hS x (mem_append_right _ vq);have aA:∀y∈S0,y.1<⇑ps/\0<=y.2:=λy hy=>hS y (mem_append_left _ hy)
 rw[List.reverse_append,flatMap_append,vj,sum_append]at *;have aZ:=XA (ps:=ps) (gs:=gs) x.1 x.2;have au:([x].map λx:Nat×Int=>nodes ps gs x.1 x.2).sum=nodes ps gs x.1 x.2:=by simp
 have aa:([x].reverse.flatMap λx=>reach ps gs x.1 x.2)=reach ps gs x.1 x.2:=by simp
 rw[au]at a7 aM|-;have b2:S0.length<=5000:=by rw[vn]at a7;lia
 have b3:=ay.1;have X:([x].reverse.flatMap λx=>mz ps gs x.1 x.2)=mz ps gs x.1 x.2:=by simp
 rw[aa]at G;rw[X]at a0;refine⟨λσ B=>nD λ(o5 J L:N3) (d g:L7) (D P S:L3)=>kb (σ=[↥a,~~~t0,↥p1,↥p2,↥p4,o5,J,L]) (sO O ps gs E t0 H B p1 p2 p4 d g D P S) (P++S.reverse.flatMap (λx=>mz ps gs x.1 x.2)=mz ps gs (⇑ps-1) t0/\(S.map λx=>nodes ps gs x.1 x.2).sum<(S0.map λx=>nodes ps gs x.1 x.2).sum+nodes ps gs x.1 x.2),
  (by rintro S' B ⟨o5,J,L,d,g,D,P,S,h1,h2,hq,h3⟩;exact⟨_,h3,o5,J,L,d,g,D,P,S,h1,h2,hq,rfl⟩),?_⟩
 exists⟨.inl ⟨rfl,_,cm.of eT⟩,?_⟩;refine⟨p4,_,.ref l,rfl,rfl,eT,by simp,?_⟩;rw[show((b.map V.ref)++[l].map V.ref).dropLast=b.map V.ref by simp];have a1:∀{c:Addr} {xs:N2},B c=some (.tup xs)->c≠p4:=λh z=>by rw[z,eT]at h;cases h
 have s5:cj H (upd B p4 (.lst (b.map V.ref))):=λc u h=>(jg (m4 h)).trans (sm _ _ h)
 have a8:upd B p4 (.lst (b.map V.ref)) p4=some (.lst (b.map V.ref)):=jA;have U:=(jg (o:=HO.lst (b.map V.ref)) ag).trans am;have C:=(jg (o:=HO.lst (b.map V.ref)) ah).trans ao;have ab:fB (upd B p4 (.lst (b.map V.ref))) d P:=cn.mono gP λc y h=>(jg (a1 h)).trans h
 have ac:fB (upd B p4 (.lst (b.map V.ref))) b S0:=cn.mono ay λc y h=>(jg (a1 h)).trans h
 have n:=(jg (o:=HO.lst (b.map V.ref)) (a1 aB)).trans aB;generalize upd B p4 (.lst (b.map V.ref))=H5 at s5 a8 U C ab ac n|-;clear a1;have aP:H5 z.s=some (.lst (gs.map V.int)):=s5 _ _ A.hs;have aF:=s5 _ _ ob;exists cz n ?_;exists⟨a,_,dx,_,_,rfl,aF,T.jU,T.Jg,Zc,?_⟩;exists cz n ?_;exists cE (cm.of aP) (jS (j:=x.1) (by rw[vv,aQ _ x1];rfl)) ?_;ac_nf;obtain⟨p,hp⟩:∃p,ps[x.1]?=some p:=⟨_,vz x1⟩
 have ar:cT ps gs x.1=fh gs p.2 (cK ps p.2):=by unfold cT;rw[hp]
 refine cH (λc1=>?_) (λc1=>?_)
 .have a2:i9 gs x=false:=vH ⋯;have aR:(ps.map λp=>fh gs p.2 (cK ps p.2))[x.1]?=some (cT ps gs x.1):=by rw[vv,hp,ar];rfl
  let⟨al,aO,bs,Z,hq⟩:=A.pa.get aR;have aX:=(N.g x1).2;have aU:⇑(cT ps gs x.1)<=8:=by rw[ar];exact Cu (N.i8 hp)
  have wl:=Li (gs:=gs) (t:=x.2) (cT ps gs x.1);exists⟨.inl ⟨rfl,_,cm.of C⟩,?_⟩;exists⟨p2,_,_,rfl,rfl,C,by rw[vt];lia,?_⟩;have ai:∀{c:Addr} {xs:N2},H5 c=some (.tup xs)->c≠p2:=λh z=>by rw[z,C]at h;cases h
  have s6:cj H (upd H5 p2 (.lst (d.map V.ref++[.ref l]))):=λc u h=>(jg (m2 h)).trans (s5 _ _ h)
  have ap:upd H5 p2 (.lst (d.map V.ref++[.ref l])) p2=some (.lst ((d++[l]).map V.ref)):=by rw[jA,vj];rfl
  have an:=(jg (o:=HO.lst (d.map V.ref++[.ref l])) af).trans U;have a9:=(jg (o:=HO.lst (d.map V.ref++[.ref l])) ah.symm).trans a8;have R:=(jg (o:=HO.lst (d.map V.ref++[.ref l])) (ai n)).trans n;have av:fB (upd H5 p2 (.lst (d.map V.ref++[.ref l]))) (d++[l]) (P++[x]):=cn.snoc (cn.mono ab λc y h=>(jg (ai h)).trans h) R;have az:fB (upd H5 p2 (.lst (d.map V.ref++[.ref l]))) b S0:=cn.mono ac λc y h=>(jg (ai h)).trans h
  generalize upd H5 p2 (.lst (d.map V.ref++[.ref l]))=H6 at s6 ap an a9 R av az|-;exists⟨.inl ⟨rfl,_,cm.of a9⟩,?_⟩;exists⟨a,_,dx,_,_,rfl,s6 _ _ ob,T.jU,T.qO,WV,?_⟩;exists cz R ?_;exists cE (cm.of (s6 _ _ A.hp)) (ZI (i:=(x.1:Int)) ⋯ aO) ?_;exists⟨a,_,dx,_,_,rfl,s6 _ _ ob,T.jU,T.Jg,Zc,?_⟩;exists cz R ?_;exists⟨al,z.s,x.2,bs,cT ps gs x.1,gs,rfl,s6 _ _ Z,cn.mono hq λc y h=>s6 _ _ h,s6 _ _ A.hs,aU,λq hq=>N.nS hq,x2,⋯,λlw aJ H7 s7 aY ew hw=>?_⟩;exists⟨rfl,lw,_,rfl,cm.of ew,?_⟩;walk_at"f lr hlr H8 s8 e8";have r:=s7.trans s8;have aq:=r _ _ a9;have b4:=hw.1;refine⟨p4,lr,_,_,rfl,rfl,aq,e8,by rw[vt,length_reverse,vt];lia,?_⟩;have a5:∀{c:Addr} {xs:N2},H8 c=some (.tup xs)->c≠p4:=λh z=>by rw[z,aq]at h;cases h
  have aw:=λ(c:Addr) (y:Nat×Int) (h:H6 c=some (.tup [.int (y.1:Nat),.int y.2]))=>(jg (o:=HO.lst (b.map V.ref++(aJ.map V.ref).reverse)) (a5 (r _ _ h))).trans (r _ _ h)
  have aL:∀y∈P++[x],y.1<⇑ps/\0<=y.2/\y.2<gs∘y.1:=λy hy=>by
   rcases vh.mp hy with h | h
   .exact bP y h
   .rw[vo.mp h];exact⟨x1,x2,c1⟩
  refine⟨_,_,_,d++[l],b++aJ.reverse,if eO ps gs x=true then D++[x]else D,P++[x],S0++(fV gs x.2 (cT ps gs x.1)).reverse,rfl,⟨λc u h=>(jg (m4 h)).trans (r _ _ (s6 _ _ h)),?_,(jg ah).trans (r _ _ ap),by rw[jA,vj,map_reverse],cn.mono av aw,?_,?_,?_,?_,aL,?_,?_,?_⟩,?_,?_⟩
  .rw[WY a2];exact(jg ag).trans (r _ _ an)
  .exact cn.app (cn.mono az aw) (cn.mono (cn.rev hw) λc y h=>(jg (a5 (s8 _ _ h))).trans (s8 _ _ h))
  .rw[List.reverse_append,List.reverse_reverse,flatMap_append,<-G];by_cases lf:eO ps gs x=true
   .have c2:cT ps gs x.1=[]:=List.isEmpty_iff.mp lf;rw[vd lf,c2,zn (.inr c2),List.append_assoc];rfl
   .have c2:¬(gs∘x.1<=x.2\/cT ps gs x.1=[]):=λh=>h.elim ⋯ λe=>lf (List.isEmpty_iff.mpr e)
    rw[vc lf,yR W c2]
  .intro y hy;rcases vh.mp hy with h | h
   .exact aA y h
   .have h:=mem_reverse.mp h;have:=zr W h;exact⟨⋯,xG (λq hq=>N.nS hq) h⟩
  .rw[filter_append,hP];by_cases lf:eO ps gs x=true
   .rw[vd lf,filter_append,filter_cons_of_pos lf,filter_cons_of_pos (by rw[a2];rfl)];rfl
   .rw[vc lf,filter_cons_of_neg lf];exact append_nil _
  .have:=Xz W (i:=x.1) (t:=x.2) c1;rw[vj,sum_append,map_reverse,List.sum_reverse,vn];show ⇑P+1+_<=_;lia
  .rw[WY a2];exact ll
  .rw[WY a2];exact hb
  .rw[List.reverse_append,List.reverse_reverse,flatMap_append,<-a0,uR W (i:=x.1) (t:=x.2) ⋯,List.append_assoc];rfl
  .have:=Xz W (i:=x.1) (t:=x.2) c1;rw[vj,sum_append,map_reverse,List.sum_reverse];lia
 .have a3:i9 gs x=true:=vG ⋯;have hE:E[x.1]?=some (E.getD x.1 []):=by rw[vy,vz ⋯];rfl
  let⟨ae,aN,bs,Z,aG⟩:=A.ea.get hE;have ak:=Kj W ⋯ A.eo x.1;have eb:=MU N lE A.eo x1;have a4:=s5 _ _ Z;exists⟨a,_,dx,_,_,rfl,aF,T.jU,T.zY,Ht,?_⟩;exists cz n ?_;exists cE (cm.of (s5 _ _ A.hl)) (ZI (i:=(x.1:Int)) ⋯ aN) ?_;refine⟨ae,rfl,⟨_,cm.of a4⟩,?_⟩;have aV:=aG.1;have aT:ae≠p1:=m1 Z;refine J2 (xs:=bs.map V.ref) (λk σ H7=>gC λ(J L:N3)=>fC (σ=[↥a,~~~t0,↥p1,↥p2,↥p4,↥l,J,L]) (∀c u,c≠p1->H5 c=some u->H7 c=some u) (H7 p1=some (.lst ((gi ((E.getD x.1 []).take k) (mG O gs E D)).map V.int))) (⇑(gi ((E.getD x.1 []).take k) (mG O gs E D))=⇑O/\(∀h∈gi ((E.getD x.1 []).take k) (mG O gs E D),0<=h/\h<=10^18)))
   ⟨_,_,rfl,λc u _ h=>h,U,ll,hb⟩ ?_ ?_ ?_
  .rintro k σ H7 _ ⟨J,L,rfl,f,F,_⟩;exact cm.of (f _ _ aT a4)
  .rintro k v σ H7 hv ⟨J,L,rfl,f,F,I,Y⟩;let⟨c',y,rfl,hy,aC⟩:=aG.cR hv;have aD:=vm hy;have yb:=ak y aD;have yh:=eb y aD;refine qH (cJ.of (f _ _ (m1 aC) (s5 _ _ aC))) ?_;ac_nf;have M:gi ((E.getD x.1 []).take (k+1)) (mG O gs E D)=(gi ((E.getD x.1 []).take k) (mG O gs E D)).set y.1.toNat y.2:=by
    unfold gi;rw[take_snoc hy,foldl_append];rfl
   refine⟨p1,_,_,y.1.toNat,rfl,rfl,F,E2 yb.1 (by rw[vt,I];exact yb.2),?_⟩;refine⟨_,_,rfl,λc u hc h=>(jg hc).trans (f _ _ hc h),jA.trans ?_,by rw[M,List.length_set];exact I,λh hh=>?_⟩
   .rw[M,List.map_set]
   .rw[M]at hh;rcases List.mem_or_eq_of_mem_set hh with z | z
    .exact Y h z
    .rw[z];exact yh
  rintro S' H7 ⟨J,L,rfl,f,F,I,Y⟩;rw[vt,aV,v8]at F I Y;have aE:∀{c:Addr} {xs:N2},H5 c=some (.tup xs)->c≠p1:=λh z=>by rw[z,U]at h;cases h
  have a6:gs∘x.1<=x.2:=⋯
  refine⟨_,_,_,d,b,D++[x],P,S0,rfl,⟨λc u h=>f _ _ (m1 h) (s5 _ _ h),?_,f _ _ af.symm C,f _ _ ag.symm a8,cn.mono ab λc y h=>f _ _ (aE h) h,cn.mono ac λc y h=>f _ _ (aE h) h,?_,aA,?_,bP,⋯,?_,?_⟩,by rw[<-a0,xi a6,nil_append],⋯⟩
  .rw[WZ a3];exact F
  .rw[<-G,zn (.inl a6),List.append_assoc]
  .rw[hP,filter_append,filter_cons_of_neg (by rw[a3];decide)];exact(append_nil _).symm
  .rw[WZ a3];exact I
  .rw[WZ a3];exact Y
def kh(T:Txt K mg t)(a3:1<*t.XU t.X7 ["start","goal","beats","j"] (Pr.Df))(Jt:3<*t.qD t.qF ["self","beat"] (fk t.jD)):4<*t.qq t.qu ["self","beat"] (fP t.jD):=by
 specialize T.kF.ok j4;let⟨a,z,d,f,F,hs,E,I,rfl,A,N,t1,t2,q⟩:=h;refine⟨_,(jb (cM 2 j4.nd (ZR (pv 0) T.jU T.Zs (Jt.mono nofun) hr T.ZV .nil cZ (ja (pv 1) jc)))
  (jb (cM 3 j4.nd (jo jv (pv 2) jd))
  (jb (Jd PassesOwn.never rfl (Ja (jo jv (pv 2) jd)) (JG rfl (jB (cW 4 j4.nd) (jB (cW 5 j4.nd) Jl)))
   (jb (cM 6 j4.nd (jo jz (Jk (pv 0) rfl) (pv 4)))
   (jf (jP (jt Jb (jo jv (pv 6) jd) jI (cg _))
    (jb (cM 7 j4.nd (Qu (qp hr) (Jk (pv 0) rfl) (jo jv (pv 6) jd)))
    (jf (yP (jq T.DU a3 hr (ja (jo jz (pv 3) (pv 7)) (ja (jo jv (pv 6) jd) (ja (jo jv (pv 6) jd) (ja (pv 5) jc))))) (kP (pv 3) (pv 7) set_list))))
    jw))))
  (jf (jx (pv 3)))))),?_⟩
 rotate_right 206
 have W:=N.s.w;have lE:=A.el;let⟨dx,ob⟩:=A.ob;exists⟨a,dx,_,rfl,ob,WU ∅ ∅ ∅ ∅ ∅ ∅,?_⟩;exists⟨a,z,d,f,F,hs,E,I,rfl,A,N,t1,t2,λr M l2 as P H1 s1 S a5 er h1 C m h2 a4 gP pl bP hP _=>?_⟩;have a1:=Fz N lE A.eo t1 hP;exists cz er ?_;exists cz er ?_;have m1:∀{c u},H c=some u->c≠M:=λh=>je h S
 have al:=gP.1;refine⟨l2,rfl,⟨_,cm.of h2⟩,?_⟩;refine J2 (xs:=as.map V.ref) (λi σ l=>mq λ(Y Z o6 o7:N3)=>fC (σ=[↥a,~~~I,↥r,↥M,Y,Z,o6,o7]) (∀c u,c≠M->H1 c=some u->l c=some u) (l M=some (.lst (((P.take i).foldl (l0 d f) (gK d f F E I)).map V.int))) (⇑((P.take i).foldl (l0 d f) (gK d f F E I))=⇑d/\(∀h∈((P.take i).foldl (l0 d f) (gK d f F E I)),0<=h/\h<=10^18)))
  ⟨_,_,_,_,rfl,λc u _ h=>h,h1,C,m⟩ ?_ ?_ ?_
 .rintro i σ l _ ⟨Y,Z,o6,o7,rfl,G,D,_⟩;exact cm.of (G _ _ a4.symm h2)
 .rintro i v σ l hv ⟨Y,Z,o6,o7,rfl,G,D,C,m⟩;let⟨c,x,rfl,hx,O⟩:=gP.cR hv;let⟨x1,x0,x2⟩:=bP x (vm hx);obtain⟨p,hp⟩:∃p,f[x.1]?=some p:=⟨_,vz x1⟩
  let⟨fb,a0,hf⟩:=A.fo.get hp;have U:(P.take (i+1)).foldl (l0 d f) (gK d f F E I)=l0 d f ((P.take i).foldl (l0 d f) (gK d f F E I)) x:=by
   rw[take_snoc hx,foldl_append];rfl
  rw[U];generalize(P.take i).foldl (l0 d f) (gK d f F E I)=hts at D C m|-;have X:∀{c u},H c=some u->l c=some u:=λh=>G _ _ (m1 h) (s1 _ _ h)
  have nc:c≠M:=λz=>by rw[z,h1]at O;cases O
  have J:cu l fb p.2:=cu.put (λb xs m=>X m) hf;refine qH (cJ.of (G _ _ nc O)) ?_;exists⟨a,_,dx,_,_,rfl,X ob,T.jU,T.JV,Y4,?_⟩;exists cE (cm.of (X A.ho)) (ZI (i:=(x.1:Int)) ⋯ a0) ?_;ac_nf;by_cases L:∃y v n,p.2 = .rise y v n
  .let⟨y,v,n,e⟩:=L;rw[e]at J;have B:f[x.1]?=some (p.1,.rise y v n):=by rw[hp,<-e]
   let⟨k,R⟩:=W.r x.1 p.1 y v n B;have ek:=Je W.ln R;have kl:k<⇑d:=by have:=(vx.mp R).1;rw[cb,vt]at this;exact this
   have o:l fb=some (.tup [.str "raise",.str y,.int v,.int n]):=J;have gx:F∘x.1=n:=((N.s.ln x.1 (p.1,.rise y v n) B).2 n (show iB (.rise y v n) _ n from rfl)).symm;have eA:l0 d f hts x=hts.set k (Rp.ramp (hts∘k) v n x.2):=by
    unfold l0;rw[B];show hts.set (cS (cb d) y) (Rp.ramp (hts∘(cS (cb d) y)) v n x.2)=_;rw[ek]
   refine cz o ?_;exists cY ?_;exists⟨a,_,dx,_,_,rfl,X ob,T.jU,T.Qq,Xr,?_⟩;exists cz o ?_;have g:dA l z.d (.str y) (some (.int (k:Nat))):=by
    have g:=dA.k (k:=Sum.inr y) (X A.hd);rw[YF W.ln R]at g;exact g
   refine⟨z.d,_,rfl,g,?_⟩;ac_nf;have hh:hts[k]?=some (hts∘k):=by rw[vy,vz ⋯];rfl
   refine cE (cm.of D) (jS (j:=k) (by rw[vv,hh];rfl)) ?_;exists cz o ?_;exists cz o ?_;ac_nf;have h0:=m _ (vm hh);let⟨v0,v1,n1,n2⟩:=N.Br x.1 p.1 y v n B;refine⟨_,_,_,_,rfl,by unfold Pr.B4;lia,?_⟩;exists⟨M,_,_,k,rfl,rfl,D,by unfold lQ;simp[C,kl],?_⟩;rw[eA];refine⟨_,_,_,_,rfl,λc u O h=>(jg O).trans (G _ _ O h),jA.trans (by rw[List.map_set]),by rw[List.length_set];exact C,λh a2=>?_⟩;rcases List.mem_or_eq_of_mem_set a2 with z | z
   .exact m h z
   .rw[z];exact Mg h0 ⟨v0,v1⟩ n1 x0 ⋯
  .have eA:l0 d f hts x=hts:=by
    unfold l0;rw[hp];let⟨pn,pf⟩:=p;cases pf with
    | rise y v n=>exact ub ⟨y,v,n,rfl⟩ L
    | _=>rfl
   let⟨k,xs,R,dk⟩:=Ce J λy v n e=>L ⟨y,v,n,e⟩
   refine ez (cJ.of R) (iV) ?_;exists eN dk ?_;ac_nf;rw[eA];exact⟨_,_,_,_,rfl,G,D,C,m⟩
 rintro S' l ⟨Y,Z,o6,o7,rfl,G,D,C,m⟩;rw[vt,al,v8,a1]at D C;ac_nf;exact q M l (λc u h=>G _ _ (m1 h) (s1 _ _ h)) S D C
def kM(T:Txt K mg t)(d:4<*t.qq t.qu ["self","beat"] (fP t.jD)):5<*t.qI t.qK ["self"] (fO t.jy t.jD):=by
 specialize T.k7.ok kT;let⟨m,c,z,i,k,f,g,E,l,rfl,A,N,n,o,q⟩:=h;refine⟨_,(jf (jx (ZR (Jk (pv 0) rfl) T.jU T.ke (d.mono nofun) hr T.kA .nil cZ (ja (Jk (pv 0) rfl) jc)))),?_⟩;refine jC (S':=[some _]) rfl ?_
 try dsimp only[dJ,Cx.iw]
 let⟨a,b⟩:=A.ob;let⟨e,j⟩:=A.sg.ob;exists⟨m,_,a,_,_,rfl,b,T.jG,T.Jx,kG,?_⟩;refine⟨c,e,_,rfl,j,WU ∅ ∅ ∅ ∅ ∅ ∅,?_⟩;exists⟨m,_,a,_,_,rfl,b,T.jG,T.Jf,ye,?_⟩;ac_nf;exact⟨c,z,i,k,f,g,E,l,rfl,A.sg,N,n,o,q⟩
def Gm(T:Txt K mg t)(zf:1<*t.Zk t.Zo ["pieces","sizes","gone"] (eQ)):2<*t.K1 t.wd ["stage","starts","inside","part","gone"] (g7 P w t.jD):=by
 specialize T.Xd.F.ok y6;let⟨a,l,d,z,ls,o,e,hs,E,st,xs,i,I,rfl,A,N,el,sl,hd,hi,t1,t2,kd,q⟩:=h;refine⟨_,(jb (cM 5 y6.nd (jo jz (Jk (pv 0) rfl) (pv 3)))
  (jb (jP (jt Jb (jo jv (pv 5) jd) jI (cg _))
   (jf (jx (jH (ja (pv 4) (ja (jo jz (pv 1) (Qu (qp hr) (Jk (pv 0) rfl) (jo jv (pv 5) jd))) jc)))))
   jw)
  (jb (jP (jt wA (jo jv (pv 5) jd) (jH (ja jI (ja jI jc))) (by with_unfolding_all rfl))
   (jf (jx (jH (ja (pv 4) jc))))
   jw)
  (jb (cM 6 y6.nd (jq T.kC zf hr (ja (jo jz (Jk (pv 0) rfl) (pv 3)) (ja (Jk (pv 0) rfl) (ja (pv 4) jc)))))
  (jb (Ap (i:=7) (ow:=["other","begin","over","rest"]) (ci:=[2]) rfl (cq.of (cf yu) ["stage","starts","inside","part","gone","form","found","pins"] rfl rfl ∅) (C2 nofun nofun nofun nofun) y6.nd rfl (.inl rfl) (Ja (pv 6)) (λ_ _ _ _ _=>⟨(JG rfl (jB (cW 0 (j6 ["stage","starts","inside","part","gone","form","found","pins"] rfl ∅)) (jB (cW 1 (j6 ["stage","starts","inside","part","gone","form","found","pins"] rfl ∅)) (jB (cW 2 (j6 ["stage","starts","inside","part","gone","form","found","pins"] rfl ∅)) (jB (cW 3 (j6 ["stage","starts","inside","part","gone","form","found","pins"] rfl ∅)) Jl))))),qS,(HH (P:=P) (w:=w) rfl rfl (qp hr) (pv 4) (jH (ja (pv 0) (ja (pv 3) jc))) ⟨rfl,rfl,rfl,rfl⟩)⟩))
  (jb (jP (jt Jb (jo jv (pv 5) jd) jI (cg _))
   (jf (jx (Jn JU (by rfl) T.ZL zG (ja (pv 7) jc))))
   jw)
  (jf (jx (jH (ja (jE (K4 rfl) (by rfl) T.Ba AA (ja (JO (ow:=["other","begin","over","rest"]) (ci:=[]) rfl (cq.of (cf yu) ["stage","starts","inside","part","gone","form","found","pins"] rfl rfl ∅) (C2 nofun nofun nofun nofun) (Ja (pv 6)) (λ_ _ _ _ _=>⟨(JG rfl (jB (cW 0 (j6 ["stage","starts","inside","part","gone","form","found","pins"] rfl ∅)) (jB (cW 1 (j6 ["stage","starts","inside","part","gone","form","found","pins"] rfl ∅)) (jB (cW 2 (j6 ["stage","starts","inside","part","gone","form","found","pins"] rfl ∅)) (jB (cW 3 (j6 ["stage","starts","inside","part","gone","form","found","pins"] rfl ∅)) Jl))))),qS,(pv 2)⟩)) jc)) (ja (jo jz (pv 7) (kr Z8 jd)) jc))))))))))),?_⟩
 rotate_right 503
 have W:=N.s.w;have ah:=W.mJ;let⟨dx,ob⟩:=A.ob;obtain⟨p,m⟩:∃p,o[i]?=some p:=⟨_,vz hi⟩
 let⟨fb,a6,R⟩:=A.fo.get m;have af:=(N.g hi).2;have a0:cT o e i=fh e p.2 (cK o p.2):=by unfold cT;rw[m]
 have a9:(o.map λp=>fh e p.2 (cK o p.2))[i]?=some (cT o e i):=by rw[vv,m,a0];rfl
 let⟨al,a5,bs,a7,hq⟩:=A.pa.get a9;have a3:⇑(cT o e i)<=8:=by rw[a0];exact Cu (N.i8 m)
 have yl:⇑(dS e I (cT o e i))<=8:=vW (List.length_filterMap_le _ _) a3;exists⟨a,_,dx,_,_,rfl,ob,T.jU,T.JV,Y4,?_⟩;exists cE (cm.of A.ho) (jS (j:=i) (by rw[vv,a6];rfl)) ?_;exists wh (C:=∃(f:Str) (tl:N2),H fb=some (.tup (.str f::tl))/\(f = "row"\/f = "side"\/f = "again")/\((f = "side"/\cO ls o e st i I = .tuple ((dS e I (cT o e i)).map (eI (cO ls o e st))))\/(¬f = "side"/\dS e I (cT o e i)≠[]/\cO ls o e st i I=lD (dS e I (cT o e i)) (cO ls o e st)))) (λhg=>?_) (λM=>?_)
 .let⟨f,tl,r,u,hD⟩:=hg;have nr:¬f = "raise":=by rcases u with h | h | h<;>(rw[h];decide +kernel)
  have nh:¬f = "hold":=by rcases u with h | h | h<;>(rw[h];decide +kernel)
  have ng:¬f = "ring":=by rcases u with h | h | h<;>(rw[h];decide +kernel)
  refine ez (cJ.of r) (iV) ?_;exists eN (vH nr) ?_;exists ez (cJ.of r) (iV) ?_;exists⟨uA,?_⟩;walk_at"f 1 e";refine⟨p1,_,rfl,.inr (cJ.of e1),rfl,rfl,_,rfl,?_⟩;refine eN (by rcases u with h | h | h<;>(subst h;decide +kernel)) ?_;exists⟨a,_,dx,_,_,rfl,s1 _ _ ob,T.jU,T.qO,WV,?_⟩;exists cE (cm.of (s1 _ _ A.hp)) (ZI (i:=(i:Int)) ⋯ a5) ?_;exists⟨a,_,dx,_,_,rfl,s1 _ _ ob,T.jU,T.Jg,Zc,?_⟩;exists⟨al,z.s,I,bs,cT o e i,e,rfl,s1 _ _ a7,cn.mono hq λc y h=>s1 _ _ h,s1 _ _ A.hs,a3,λq hq=>N.nS hq,t1,⋯,λlp U H2 s2 ag ep D=>?_⟩;have F:=s1.trans s2;have S:=D.1;have a1:hL P w H2 d xs:=⟨F _ _ hd.1,λp m=>F _ _ (hd.2 p m)⟩
  generalize eY:dS e I (cT o e i)=Y at hD D S yl kd;exists⟨lp,rfl,⟨_,cm.of ep⟩,?_⟩;refine JJ (xs:=U.map V.ref) (λk J B=>cj H2 B/\fW B J ((Y.take k).map (eI (cO ls o e st)))) ⟨cj.refl _,.nil⟩ ?_ ?_ ?_
  .rintro k J B _ ⟨Z,_⟩;exact cm.of (Z _ _ ep)
  .rintro k v J B hv ⟨Z,L⟩;let⟨c,y,rfl,hy,hc⟩:=D.cR hv;have hk:=(vx.mp hy).1;have ae:=uH L;rw[vt,vi]at ae;refine JW (S':=[none,none,none,none,↥d]) rfl ?_;refine AK (cJ.of (Z _ _ hc)) ?_;exists eB ?_;exists DO ?_;ac_nf;have O:hL P w B d xs:=⟨Z _ _ a1.1,λp m=>Z _ _ (a1.2 p m)⟩
   refine⟨d,xs,rfl,O,?_⟩;exists⟨uA,?_⟩;walk_at"f 3 e";refine⟨p3,[some (y.1:Int),y.2.2.2],xs,rfl,⟨s3 _ _ O.1,λp m=>s3 _ _ (O.2 p m)⟩,?_,?_⟩
   .show H3 p3=_;rw[e3];cases y.2.2.2<;>rfl
   refine⟨⋯,Z.trans s3,?_⟩;rw[take_snoc hy,vj];exact B6 (L.mono s3) (((kd y (vm hy)).mono F).mono (Z.trans s3))
  rintro J H3 ⟨s3,L⟩;rw[vt,S,v8]at L;have a4:=uH L;rw[vt]at a4;refine⟨⋯,?_⟩;walk_at"f lq hlq H4 s4 e4";have G:=s3.trans s4;have X:=F.trans G;exists ez (cJ.of (X _ _ r)) (iV) ?_;ac_nf;rcases hD with⟨ht,hD⟩ | ⟨ht,yn,hD⟩
  .refine i7 (vG ht) ?_;exists⟨lq,_,rfl,.inl ⟨cm.of e4,?_⟩⟩;walk_at"f 5 e";refine q (.ref p5) H5 (X.trans s5) ?_;rw[hD];exact .tup e5 ((L.mono s4).mono s5)
  .refine eN (vH ht) ?_;exists⟨lp,rfl,⟨_,cm.of (G _ _ ep)⟩,?_⟩;refine JJ (xs:=U.map V.ref) (λk J B=>J=((Y.take k).map λy=>y.2.2.1).map V.int/\H4=B) ⟨rfl,rfl⟩ ?_ ?_ ?_
   .rintro k J B _ ⟨rfl,rfl⟩;exact cm.of (G _ _ ep)
   .rintro k v J B hv ⟨rfl,rfl⟩;let⟨c,y,rfl,hy,hc⟩:=D.cR hv;have hk:=(vx.mp hy).1;refine JW (S':=[none,none,none,none]) rfl ?_;refine AK (cJ.of (G _ _ hc)) ?_;exists eB ?_;exists⟨by rw[vt,vt,vi];lia,?_,rfl⟩;rw[take_snoc hy,vj,vj];rfl
   rintro zs B ⟨rfl,rfl⟩;rw[show(U.map V.ref).length=⇑Y from(vt _).trans S,v8];refine⟨by rw[vt,vt];lia,?_⟩;walk_at"f 5 e";refine⟨p5,_,rfl,cm.of e5,?_⟩;have ad:Y.map (eI (cO ls o e st))≠[]:=λz=>yn (List.map_eq_nil_iff.mp z)
   let⟨x,ab,ac⟩:=HP (d:=PyData.none) ad;let⟨v,a2,aa⟩:=DZ L ac;rw[vt]at a2;have y1:1<=⇑Y:=length_pos_iff.mpr yn;exists cE (cm.of (s5 _ _ e4)) (DW (n:=⇑Y) y1 a4 a2) ?_;exists⟨uA,?_⟩;walk_at"f 6 e";refine q (.ref p6) H6 (X.trans (s5.trans s6)) ?_;rw[hD];unfold lD;rw[ab];exact .tup e6 (.cons (.int _) (.cons (((aa.mono s4).mono s5).mono s6) .nil))
 .let⟨nm,fm⟩:=p;dsimp only at R;cases fm with
  | rise x v n=>
   have r:H fb=some (.tup [.str "raise",.str x,.int v,.int n]):=R;let⟨j,hj⟩:=W.r i nm x v n m;have a8:=(vx.mp hj).1;rw[cb,vt]at a8;have g:=dA.k (k:=Sum.inr x) A.hd;rw[YF W.ln hj]at g;refine cz r ?_;exists cY ?_;exists⟨a,_,dx,_,_,rfl,ob,T.jU,T.Qq,Xr,?_⟩;exists cz r ?_;refine⟨z.d,_,rfl,g,?_⟩;refine cE (cm.of el) (jS (j:=j) (by rw[vv,vz ⋯];rfl)) ?_;exists⟨uA,?_⟩;walk_at"f 1 e";refine q (.ref p1) H1 s1 ?_;rw[yr m,Je W.ln hj,vy,vz ⋯];exact .tup e1 (.cons (.int _) (.cons (.int _) .nil))
  | hold n=>
   have r:H fb=some (.tup [.str "hold",.int n]):=R;refine cz r ?_;exists cv ?_;exists cz r ?_;exists⟨uA,?_⟩;walk_at"f 1 e";refine⟨p1,_,rfl,.inr (cJ.of e1),rfl,rfl,_,rfl,?_⟩;refine cY ?_;exists⟨ua,?_⟩;walk_at"f 2 e";refine q (.ref p2) H2 (s1.trans s2) ?_;rw[yj m];exact .tup e2 (.cons (.int _) .nil)
  | ring x n=>
   have r:H fb=some (.tup [.str "ring",.str x,.int n]):=R;refine cz r ?_;exists cv ?_;exists cz r ?_;exists⟨uA,?_⟩;walk_at"f 1 e";refine⟨p1,_,rfl,.inr (cJ.of e1),rfl,rfl,_,rfl,?_⟩;refine cY ?_;exists⟨ua,?_⟩;walk_at"f 2 e";refine q (.ref p2) H2 (s1.trans s2) ?_;rw[yq m];exact .tup e2 (.cons (.int _) .nil)
  | row xs2=>
   let⟨b,r,h2⟩:=R;exact M ⟨_,_,r,.inl rfl,.inr ⟨by trivial,Em N m t1 (.inl ⟨_,rfl⟩),Wo W m⟩⟩
  | side xs2=>
   let⟨b,r,h2⟩:=R;exact M ⟨_,_,r,.inr (.inl rfl),.inl ⟨rfl,Ky W m⟩⟩
  | again k x=>
   have r:H fb=some (.tup [.str "again",.int k,.str x]):=R;exact M ⟨_,_,r,.inr (.inr rfl),.inr ⟨by trivial,Em N m t1 (.inr ⟨_,_,rfl⟩),Y7 W m⟩⟩
def Gk(T:Txt K mg t)(Jt:3<*t.qD t.qF ["self","beat"] (fk t.jD))(KS:2<*t.K1 t.wd ["stage","starts","inside","part","gone"] (g7 P w t.jD)):4<*t.K0 t.wc ["stage","beat"] (g6 t.jD):=by
 specialize T.Xc.F.ok ZD;let⟨a,z,S,f,o,hs,E,I,rfl,A,N,t1,t2,q⟩:=h;refine⟨_,(jb (cM 2 ZD.nd (ZR (pv 0) T.jU T.Zs (Jt.mono nofun) hr T.ZV .nil cZ (ja (pv 1) jc)))
  (jb (cM 3 ZD.nd HG)
  (jb (Jd PassesOwn.never rfl (Ja (Ec (jo jv (pv 2) jd) (Qe (kr Z8 jd)))) (JG rfl (jB (cW 4 ZD.nd) (jB (cW 5 ZD.nd) Jl)))
   (jf (yP (jq T.Xd KS hr (ja (pv 0) (ja (jo jv (pv 2) jd) (ja (pv 3) (ja (pv 4) (ja (pv 5) jc)))))) (kP (pv 3) (jH (ja (pv 4) (ja (pv 5) jc))) (MH (qp hr))))))
  (jf (jx (DJ (qp hr) (pv 3) (jH (ja (jr qP (jE jY (by rfl) T.JZ Jp (ja (Jk (pv 0) rfl) jc)) jd) (ja (pv 1) jc))) ⟨rfl,rfl,rfl,rfl⟩)))))),?_⟩
 rotate_right 204
 have W:=N.s.w;have ne:=N.ne;let⟨dx,ob⟩:=A.ob;exists⟨a,dx,_,rfl,ob,WU ∅ ∅ ∅ ∅ ∅ ∅,?_⟩;exists⟨a,z,S,f,o,hs,E,I,rfl,A,N,t1,t2,λr l1 l2 as l H1 s1 a7 a8 er h1 ll hb h2 a9 gP pl bP hP eP=>?_⟩;ac_nf;dsimp only[dJ,Cx.iw];intro d U;have M:cj H1 (upd H1 d (nA P w d [])):=Wu U rfl;have ed:hL P w (upd H1 d (nA P w d [])) d []:=⟨jA,λp L=>nomatch L⟩
 have a2:d≠l1:=λz=>by rw[z,h1]at U;cases U
 generalize a1:upd H1 d (nA P w d [])=H2 at M ed|-;clear a1;have a6:=s1.trans M;have al:=gP.1;exists cz (M _ _ er) ?_;exists⟨rfl,l2,_,rfl,cm.of (M _ _ h2),?_⟩;walk_at"f lr hlr H3 s3 e3";have Z:=a6.trans s3;have a5:lr≠d:=λz=>by rw[z,ed.1]at hlr;cases hlr
 rw[<-map_reverse]at e3;refine⟨lr,rfl,⟨_,cm.of e3⟩,?_⟩;have gR:fB H3 as.reverse l.reverse:=cn.mono (cn.rev gP) λc y h=>s3 _ _ (M _ _ h)
 refine J2 (xs:=as.reverse.map V.ref) (λk σ j=>iX λ(o4 o5:N3) (xs:List OE)=>lJ (σ=[↥a,~~~I,↥r,↥d,o4,o5]) (∀c u,c≠d->H3 c=some u->j c=some u) (hL P w j d xs) (⇑xs<=k) ((∀x∈l.reverse.take k,DV j (ig xs [some (x.1:Int),some x.2]) (cO S f o (gK S f o E I) x.1 x.2))) ((∀(y:KO),ig xs [y,none] = .de)/\(k=0->xs=[])))
  ⟨_,_,[],rfl,λc u _ h=>h,⟨s3 _ _ ed.1,λp L=>nomatch L⟩,vb _,(λx B=>nomatch B),λy=>rfl,λ_=>rfl⟩ ?_ ?_ ?_
 .rintro k σ j _ ⟨o4,o5,xs,rfl,G,_⟩;exact cm.of (G _ _ a5 e3)
 .rintro k v σ j hv ⟨o4,o5,xs,rfl,G,B,xl,m,J,_⟩;let⟨c,x,rfl,g,hc⟩:=gR.cR hv;have hk:=(vx.mp g).1;rw[length_reverse]at hk;let⟨x1,x2,x3⟩:=bP x (mem_reverse.mp (vm g));have kd:∀{c:Addr} {u:HO},H c=some u->j c=some u:=λ{c u} h=>G _ _ (λz=>by rw[z]at h;exact ub (s1 _ _ h) (by rw[U];simp)) (Z _ _ h)
  have sH:cj H j:=λc u h=>kd h
  have nt:∀{c:Addr} {O:N2},H3 c=some (.tup O)->j c=some (.tup O):=λ{c O} h=>G _ _ (λz=>by rw[z,s3 _ _ ed.1]at h;cases h) h
  have X:KidsP j xs (cO S f o (gK S f o E I)) (dS o x.2 (cT f o x.1)):=λy hy=>by
   unfold eI;cases hr:y.2.2.2 with
   | none=>rw[J];exact .de
   | some r0=>
    let⟨e1,R⟩:=vx.mp g;have a0:mz f o (⇑f-1) I=l.take (⇑l-1-k)++x::(l.reverse.take k).reverse:=by
     rw[<-eP,List.take_reverse,List.reverse_reverse];have a3:l[⇑l-1-k]?=some x:=by
      rw[List.getElem?_reverse ⋯]at g;exact g
     have:=List.take_append_drop (⇑l-1-k) l;rw[List.drop_eq_getElem_cons ⋯,(vx.mp a3).2,show ⇑l-1-k+1=⇑l-k by lia]at this;exact this.symm
    exact m _ (mem_reverse.mp (Mb N a0 y hy r0 hr))
  refine qH (cJ.of (nt hc)) ?_;exists cz (nt (s3 _ _ (M _ _ er))) ?_;exists⟨a,l1,d,z,S,f,o,hs,E,_,xs,x.1,x.2,rfl,A.same sH,N,G _ _ (Ne.symm a2) (s3 _ _ (M _ _ h1)),ll,B,x1,x2,x3,X,λv H4 s4 dv=>?_⟩;exists⟨uA,?_⟩;walk_at"f kt hkt H5 s5 e5";have F:=s4.trans s5;have C:hL P w H5 d xs:=⟨F _ _ B.1,λp L=>F _ _ (B.2 p L)⟩
  refine⟨d,kt,[some (x.1:Int),some x.2],xs,rfl,rfl,C,e5,⋯,?_⟩;dsimp only[dJ,Cx.iw];have aa:=CI (xs:=xs) (k:=[some (x.1:Int),some x.2]) (b:=kt) (v:=v);have a4:∀c O,H5 c=some (.tup O)->upd H5 d (nA P w d (iG xs [some (x.1:Int),some x.2] kt v)) c=some (.tup O):=λc O h=>(jg (λz=>by rw[z,C.1]at h;cases h)).trans h
  have Y:∀{v':V} {D:PyData},DV H5 v' D->DV (upd H5 d (nA P w d (iG xs [some (x.1:Int),some x.2] kt v))) v' D:=λh=>h.mS (by rw[C.1];exact⟨(λ_ z=>nomatch z),(λ_ z=>nomatch z)⟩)
  refine⟨_,_,_,rfl,λc u n h=>(jg n).trans (F _ _ (G _ _ n h)),⟨jA,Ih C.2 e5 a4⟩,⋯,λy hy=>?_,λy=>?_,λz=>⋯⟩
  .rw[Cb];rw[take_snoc g]at hy;split
   .rename_i e;injection e with e1 R;injection R with R _;have e1:(y.1:Int)=x.1:=vL e1;have R:y.2=x.2:=vL R;rw[R,show y.1=x.1 by lia];exact Y (dv.mono s5)
   .rename_i ne';rcases vh.mp hy with h | h
    .exact Y ((m y h).mono F)
    .rw[vo.mp h]at ne';exact ub rfl ne'
  .rw[Cb,vc (λz=>nomatch z)];exact J y
 rintro σ j ⟨o4,o5,xs,rfl,G,B,xl,m,J,hz⟩;have kd:∀{c:Addr} {u:HO},H c=some u->j c=some u:=λ{c u} h=>G _ _ (λz=>by rw[z]at h;exact ub (s1 _ _ h) (by rw[U];simp)) (Z _ _ h)
 have sH:cj H j:=λc u h=>kd h
 have fl:=A.fo.1;rw[vt,length_reverse,al,take_of_length_le (by rw[length_reverse];lia)]at m;rw[vt,length_reverse,al]at hz xl;exists DO ?_;exists⟨d,xs,rfl,B,?_⟩;exists⟨a,_,dx,_,_,rfl,sH _ _ ob,T.jU,T.JV,Y4,?_⟩;exists⟨_,_,rfl,.inl ⟨_,cm.of (sH _ _ A.ho),rfl⟩,?_⟩;rw[vt,fl];exists⟨uA,?_⟩;walk_at"f 7 e";refine⟨p7,[some ((⇑f-1:Nat):Int),some I],xs,rfl,⟨s7 _ _ B.1,λp L=>s7 _ _ (B.2 p L)⟩,?_,?_⟩
 .rw[show((⇑f:Nat):Int)-1=((⇑f-1:Nat):Int) by lia]at e7;exact e7
 refine q _ H7 (sH.trans s7) ?_;unfold eF;by_cases c:o∘(⇑f-1)<=I
 .rw[vd c];rw[xi c]at eP;rw[hz (by rw[eP];rfl)];exact .de
 .rw[vc c];refine(m (⇑f-1,I) (mem_reverse.mpr ?_)).mono s7;rw[eP,uR W c];exact vq
def Wa(T:Txt K mg t)(c:4<*t.K0 t.wc ["stage","beat"] (g6 t.jD)):5<*t.QR t.QU ["self"] (iO t.jy t.jD):=by
 specialize T.Wx.ok Wf;let⟨m,i,z,f,g,d,e,E,j,rfl,A,N,k,l,q⟩:=h;refine⟨_,(jf (jx (jq T.Xc c hr (ja (Jk (pv 0) rfl) (ja (Jk (pv 0) rfl) jc))))),?_⟩;refine jC (S':=[some _]) rfl ?_
 try dsimp only[dJ,Cx.iw]
 let⟨a,b⟩:=A.ob;exists⟨m,_,a,_,_,rfl,b,T.jG,T.Jx,kG,?_⟩;exists⟨m,_,a,_,_,rfl,b,T.jG,T.Jf,ye,?_⟩;ac_nf;exact⟨i,z,f,g,d,e,E,j,rfl,A.sg,N,k,l,q⟩
def wZ(T:Txt K mg t)(o:5<*t.qI t.qK ["self"] (fO t.jy t.jD))(p:5<*t.QR t.QU ["self"] (iO t.jy t.jD)):6<*t.JC t.JE ["self"] (fj t.jy t.jD):=by
 specialize T.Ww.ok We;let⟨m,j,z,f,g,d,e,E,k,rfl,A,N,l,n,q⟩:=h;refine⟨_,(jf (jx (jH (ja (Jk (pv 0) rfl) (ja (Jn JU (by rfl) T.ZL zG (ja (qQ (pv 0) T.jG T.kI (o.mono nofun) hr T.kW .nil cZ) jc)) (ja (qQ (pv 0) T.jG T.wX (p.mono nofun) hr T.Wv .nil cZ) jc)))))),?_⟩;refine jC (S':=[some _]) rfl ?_
 try dsimp only[dJ,Cx.iw]
 have G:(200:Nat)<sizeLine:=by decide
 let⟨b,c⟩:=A.ob;exists⟨m,_,b,_,_,rfl,c,T.jG,T.Jf,ye,?_⟩;exists⟨m,b,_,rfl,c,qw ∅ ∅ ∅,?_⟩;refine⟨m,j,z,f,g,d,e,E,k,rfl,A,N,l,n,λy D C x u B=>?_⟩;exists⟨y,_,rfl,.inl ⟨cm.of u,?_⟩⟩;walk_at"f 2 e";have a:=C.trans s2;exists⟨m,b,_,rfl,a _ _ c,qw ∅ ∅ ∅,?_⟩;refine⟨m,j,z,f,g,d,e,E,k,rfl,A.same a,N,l,n,λv F i r=>?_⟩;exists⟨uB,?_⟩;walk_at"f 4 e";exact q p4 p2 v H4 (a.trans (i.trans s4)) e4 (s4 _ _ (i _ _ e2)) B (r.mono s4)
def FH(T:Txt K mg t)(j2:8<*t.Jc t.Jr ["self","box"] (fi t.jy t.jD))(Ji:1<*t.j5 t.j7 ["self","beat"] (fR t.jy t.jD))(jN:6<*t.JC t.JE ["self"] (fj t.jy t.jD))(e:dO P w K mg base (iq P w) 1 t.j5 t.j7 ["self","beat"] (Cq t.jy t.jD t.jZ)):dO P w K mg base (iq P w) 10 t.zi t.zl ["box","kept"] (wV t.jy t.jD t.jX):=by
 refine T.Q9.F.EO y8 (λvs H Q E h=>?_) (λa0 A Z s H vs Q E C h=>?_)
 .let⟨bx,kt,l,f,hv,kv,F,v,j,D,gs,U,J,g,d0,rfl,et,el,la,ef,dr,Bx,N,O,dk,y,lE,oE,r,q⟩:=h;rfl
 let⟨bx,kt,l,f,hv,kv,F,v,j,D,gs,U,J,g,d0,rfl,et,el,la,ef,dr,Bx,N,O,dk,y,lE,oE,r,q⟩:=h;refine⟨_,(CO (cM 2 y8.nd (Wm T.KU (j2.mono nofun) C (by rfl) T.kK T.Qz .nil cZ (ja (pv 0) jc)))
  (MF (Lv PySem.F.excBase_ValueError ⟨rfl,rfl,rfl,rfl⟩ (by rfl) T.wv
   (Zv (C6 (Lq (pv 2) T.jG T.Qt (e.mono nofun) C T.QM .nil ⟨rfl,rfl,rfl,rfl⟩ (ja (jo jv (pv 1) jd) jc))))
   (by rfl) T.wx T.Zf)
  (CG (jf (jV (ZR (pv 2) T.jG T.Qt (Ji.mono nofun) C T.QM .nil cZ (ja (jo jv (pv 1) jd) jc)))))
  (Zv (EJ (jt (YG C.units) (qQ (pv 2) T.jG T.Jw (jN.mono nofun) C T.JB .nil cZ) (pv 1) (cg _))
   (Zv (CN PySem.F.excBase_ValueError ⟨rfl,rfl,rfl,rfl⟩ (by rfl) T.wx T.Zf))
   XH)))),?_⟩
 refine XG (S':=[some _,some _,none]) rfl ?_;have W:=N.s.w;refine DQ ?_;ac_nf;intro m L S R a2;have o:cj H (upd (upd H L (.own m)) m (.ins t.jy L [])):=λc u h=>(jg (je h S)).trans ((jg (je h R)).trans h)
 refine⟨m,L,bx,l,f,F,v,j,D,gs,U,rfl,jA,o _ _ et,o _ _ el,la.mono λb x h=>o _ _ h,o _ _ ef,cn.mono dr λa d h=>h.same o,Bx,N,λst z E' H2 k2 a1 p _=>⟨rfl,?_⟩⟩;obtain rfl:=B7 W p.sg.el lE p.sg.eo oE;have k:cj H H2:=λc u h=>k2 _ _ (je h S) (o _ _ h)
 let⟨B,G⟩:=p.ob;ac_nf;dsimp only;have n:(g<0\/gs∘(⇑(eM j D)-1)<g)\/(0<=g/\g<=gs∘(⇑(eM j D)-1)/\PyData.eqv (eV j (eM j D) gs J g) d0=false):=by
  rcases r with h | h | h
  .exact .inl (.inl h)
  .exact .inl (.inr h)
  .exact .inr h
 rcases n with n | ⟨t1,t2,ne⟩
 .refine .inl ?_;refine IW ?_;refine EI (IV ?_);exists⟨m,B,_,rfl,G,qw ∅ ∅ ∅,?_⟩;exists cz (k _ _ O) ?_;ac_nf;exact⟨m,st,z,j,_,gs,_,0,g,rfl,p,n,T.qj,rfl,q _ _ k⟩
 .refine .inr ?_;refine DQ ?_;exists⟨m,B,_,rfl,G,qw ∅ ∅ ∅,?_⟩;exists cz (k _ _ O) ?_;exists⟨m,st,z,j,_,gs,_,0,g,rfl,p,t1,t2,λH3 k3 A3=>?_⟩;have I:cj H H3:=λc u h=>k3 _ _ (je h S) (k _ _ h)
  let⟨M,Y⟩:=A3.ob;ac_nf;dsimp only;refine Er ?_;exists⟨m,M,_,rfl,Y,qw ∅ ∅ ∅,?_⟩;refine⟨m,st,z,j,_,gs,U,_,g,rfl,A3,N,t1,t2,λr5 l5 v5 H5 s5 a5 b5 c5 d5=>?_⟩;have X:=W3 (gs:=gs) (E:=J) (t:=g) W N.ne;exists⟨_,_,yL a5 b5 d5,(dk.mono I).mono s5,X.ok nofun,y.ok nofun,?_⟩;rw[ne];exists eB ?_;exact q _ _ (I.trans s5)
def Gn(T:Txt K mg t)(j2:8<*t.Jc t.Jr ["self","box"] (fi t.jy t.jD))(Ji:1<*t.j5 t.j7 ["self","beat"] (fR t.jy t.jD))(jN:6<*t.JC t.JE ["self"] (fj t.jy t.jD)):10<*t.zi t.zl ["box","kept"] (eR t.jy t.jD):=by
 specialize T.Q9.F.ok y8;let⟨bx,kt,l,f,lh,kv,J,C,L,ks,gs,U,EE,S,rfl,et,el,la,ef,dr,Z,N,ek,dk,lE,oE,X,Y,q⟩:=h;refine⟨_,(jb (cM 2 y8.nd (Wm T.KU (j2.mono nofun) hr (by rfl) T.kK T.Qz .nil cZ (ja (pv 0) jc)))
  (jb (CG (jf (jV (ZR (pv 2) T.jG T.Qt (Ji.mono nofun) hr T.QM .nil cZ (ja (jo jv (pv 1) jd) jc)))))
  (jb (jP (jt (YG hr.units) (qQ (pv 2) T.jG T.Jw (jN.mono nofun) hr T.JB .nil cZ) (pv 1) (cg _))
   (jf Zu)
   jw)
  (jf (jx (pv 2)))))),?_⟩
 rotate_right 201
 have W:=N.s.w;ac_nf;intro m D y I a0;have g:cj H (upd (upd H D (.own m)) m (.ins t.jy D [])):=λc u h=>(jg (je h y)).trans ((jg (je h I)).trans h)
 refine⟨m,D,bx,l,f,J,C,L,ks,gs,U,rfl,jA,g _ _ et,g _ _ el,la.mono λb x h=>g _ _ h,g _ _ ef,cn.mono dr λa d h=>h.same g,Z,N,λr z E' H2 k2 k v nz=>⟨rfl,?_⟩⟩;obtain rfl:=B7 W v.sg.el lE v.sg.eo oE;have o:cj H H2:=λc u h=>k2 _ _ (je h y) (g _ _ h)
 let⟨F,M⟩:=v.ob;exists⟨m,F,_,rfl,M,qw ∅ ∅ ∅,?_⟩;exists cz (o _ _ ek) ?_;exists⟨m,r,z,L,_,gs,_,0,S,rfl,v,X,Y,λH3 k3 B=>?_⟩;have p:cj H H3:=λc u h=>k3 _ _ (je h y) (o _ _ h)
 let⟨G,O⟩:=B.ob;exists⟨m,G,_,rfl,O,qw ∅ ∅ ∅,?_⟩;refine⟨m,r,z,L,_,gs,U,_,S,rfl,B,N,X,Y,λr5 l5 v5 H5 R a5 b5 c5 d5=>?_⟩;have j:=W3 (gs:=gs) (E:=EE) (t:=S) W N.ne;exists⟨_,_,yL a5 b5 d5,(dk.mono p).mono R,j.ok nofun,j.ok nofun,?_⟩;rw[SeqAt.eqv_refl _ j.1];exists gq ?_;ac_nf;have n:H r=none:=by
  cases e:H r with
  | none=>rfl
  | some u=>rw[g _ _ e]at k;cases k
 exact q m r z H5 (p.trans R) y n (B.same R) (nz.less g)
def Wc(T:Txt K mg t):1<*t.JD t.JF ["_law_script","_law_k"] (Pr.dR K):=by
 specialize T.Jh.F.ok Wh;let⟨a,g,k,rfl,b,f,d,q⟩:=h;refine⟨_,(jb (jP (jt Ya (pv 1) (jE jY (by rfl) T.JZ Jp (ja (pv 0) jc)) (cg _))
   (jf (jx (jo jz (pv 0) (pv 1))))
   jw)
  (jf (jx jd))),?_⟩
 rotate_right 200
 exists⟨_,_,rfl,.inl ⟨_,b,rfl⟩,?_⟩;exists cH (λc=>?_) (λc=>?_)
 .ac_nf;exact⟨a,_,k,_,rfl,rfl,b,Pr.Iy d (by rw[vt]at c;exact c),q⟩
 .ac_nf;have e:Pr.cell g k=0:=by
   rw[vt]at c;unfold Pr.cell;rw[vy,List.getElem?_eq_none ⋯];rfl
  rw[e]at q;exact q
def xO(T:Txt K mg t):1<*t.JM t.JN ["_law_cell","_law_k"] (kc):=by
 refine T.Js.F.ok xV (λf H Q E h=>?_) (λe A d s H f Q E g h=>?_)
 .let⟨c,k,rfl,a,b,q⟩:=h;rfl
 let⟨c,k,rfl,a,b,q⟩:=h;refine⟨_,(jf (jx (jr j3 (jr Q0 (jr jR (jr jR (jr j3 (pv 0) (jr zN jd jd)) (jr Q0 (pv 1) (pv 1))) jd) jd) (jr jR (jr zN jd jd) jd)))),?_⟩;refine jC (S':=[some _,some _]) rfl ?_
 try dsimp only[dJ,Cx.iw]
 have j:=ve c (show(10^30:Int)≠0 by decide);have l:=vf c (show(0:Int)<10^30 by decide);have i:0<=k*k/\k*k<=10^40:=⟨Int.mul_nonneg a a,by have:=Int.mul_le_mul b b a nofun;lia⟩
 ac_nf;exact q
def xN(T:Txt K mg t)(e:1<*t.JD t.JF ["_law_script","_law_k"] (Pr.dR K))(f:1<*t.JM t.JN ["_law_cell","_law_k"] (kc)):2<*t.yF t.yJ ["_law_script","_law_j","_law_k"] (gY K):=by
 specialize T.yA.F.ok kz;let⟨a,c,j,k,rfl,d,b,m,n,o,p,q⟩:=h;refine⟨_,(jb (cM 3 kz.nd (jq T.Js f hr (ja (jq T.Jh e hr (ja (pv 0) (ja (pv 1) jc))) (ja (pv 2) jc))))
  (jf (jx (jr Q0 (pv 3) (jq T.Js f hr (ja (jq T.Jh e hr (ja (pv 0) (ja (jr jR (pv 1) jd) jc))) (ja (jr jR (pv 2) jd) jc))))))),?_⟩
 rotate_right 301
 have g:=QZ (Pr.cell c j) k;have l:=QZ (Pr.cell c (j+1)) (k+20);exists⟨a,c,_,rfl,d,b,⋯,?_⟩;exists⟨_,_,rfl,⋯,⋯,?_⟩;exists⟨a,c,_,rfl,d,b,⋯,?_⟩;exists⟨_,_,rfl,⋯,⋯,?_⟩;ac_nf;exact q
def Ff(T:Txt K mg t):1<*t.zF t.zK ["_law_place","_law_k"] (gJ):=by
 specialize T.zA.F.ok Fp;let⟨p,k,rfl,f,e,q⟩:=h;refine⟨_,(jf (jx (jr yN (jr yN (jr yN (qR Et jI Q1 (Qe (pv 0))) (jo uK jI (jr j3 (pv 1) jd))) (jo uK jI (jr Jj (pv 1) jd))) (qR Et jI (Qe (pv 0)) Q1)))),?_⟩;refine jC (S':=[some _,some _]) rfl ?_
 try dsimp only[dJ,Cx.iw]
 have j:(200:Nat)<sizeLine:=by decide
 have b:(Str.ofString "abcdefghijklnopqrstuvwxyz").cps.toList[((k%25:Nat):Int).toNat]?=some (BL.cps.toList.getD (k%25) 97):=by
  have l:(Str.ofString "abcdefghijklnopqrstuvwxyz").cps.toList.length=25:=by trivial
  show _=some ((Str.ofString "abcdefghijklnopqrstuvwxyz").cps.toList.getD (k%25) 97);rw[Int.toNat_natCast,vy,vz ⋯];rfl
 have g:(Txt.slice (Str.ofString "mm") none (some ((p:Nat):Int))).length<=4:=vW BY ∅;have i:(Txt.slice (Str.ofString "mm") (some ((p:Nat):Int)) none).length<=4:=vW BY ∅;have a:∀c,⇑(⟨#[c]⟩:Str)=1:=λc=>rfl
 exists⟨∅,?_⟩;ac_nf;rw[show((k:Nat):Int)%25=((k%25:Nat):Int) by lia];refine⟨_,_,_,rfl,rfl,∅,GS ⋯ b,?_⟩;refine⟨_,_,rfl,rfl,by rw[a];lia,?_⟩;ac_nf;have d:ft (Str.ofString "nopq").cps.toList (((k:Nat):Int)/25)=some (if k<25 then 110 else 111):=by
  by_cases c:k<25
  .rw[vd c,show((k:Nat):Int)/25=0 by lia];decide +kernel
  .rw[vc c,show((k:Nat):Int)/25=1 by lia];decide +kernel
 refine⟨_,_,(if k<25 then 110 else 111),rfl,rfl,∅,?_,?_⟩
 .exact d
 refine⟨_,_,rfl,rfl,by rw[Str.length_append,a,a];lia,?_⟩;exists⟨∅,?_⟩;refine⟨_,_,rfl,rfl,by rw[Str.length_append,Str.length_append,a,a];lia,?_⟩;exact q
def xS(T:Txt K mg t):1<*t.zS t.zV ["_law_number","_law_names","_law_movers","_law_kind"] (g5):=by
 specialize T.zP.F.ok JY;let⟨n,nl,ml,a1,L,m,Ms,o,rfl,N,n1,n0,n2,hk,q⟩:=h;refine⟨_,(jb (cM 4 JY.nd (jO jc))
  (jb (jp (i:=5) JY.nd rfl (.inr rfl) (jO jc))
  (jb (Jd PassesOwn.never rfl (JK (by rfl) T.qJ (ja (jE jY (by rfl) T.JZ Jp (ja (pv 1) jc)) jc)) (cW 6 JY.nd)
   (jb (cM 7 JY.nd (jr j3 (jr qP (jr qP (jE jY (by rfl) T.JZ Jp (ja (pv 1) jc)) jd) (jr Q0 (pv 6) (jr jR jd (jr j3 (pv 0) jd)))) (jE jY (by rfl) T.JZ Jp (ja (pv 1) jc))))
   (jb (Ap (i:=8) (ow:=["_law_one"]) (ci:=[5]) rfl (cq.of (cf zZ) ["_law_number","_law_names","_law_movers","_law_kind","_law_some","_law_used","_law_j","_law_at","_law_twice"] rfl rfl ∅) (Qs nofun) JY.nd rfl (.inl rfl) (Ja (jo jz (pv 2) (pv 7))) (λ_ _ _ _ _=>⟨(cW 0 (j6 ["_law_number","_law_names","_law_movers","_law_kind","_law_some","_law_used","_law_j","_law_at","_law_twice"] rfl ∅)),(AG (jt (kN (K:=K) rfl) (pv 0) (pv 1) (by with_unfolding_all rfl))),(pv 0)⟩))
   (jb (Q2 (PW.pt (Q3 (jt Jb (pv 3) jI (cg _)) (Qv (jt Ya (pv 6) (jr jR jd (jr j3 (jr Jj (pv 0) jd) jd)) (cg _)))))
    (jf (jV (qa q5 q7 iA jT (pv 4) (ja (jo jz (pv 1) (pv 7)) jc))))
    jw)
   (jf (jP (PW.pt (Q3 (jt Jb (pv 3) jI (cg _)) (Q3 (jt (YG hr.units) (jo jz (pv 2) (pv 7)) (jO jc) (cg _)) (Q3 (jt (A1 hr.units) (pv 8) (jO jc) (cg _)) (Qv (jt Ya (jE jY (by rfl) T.JZ Jp (ja (pv 4) jc)) jd (cg _)))))))
    (jb (jV (qa q5 q7 iA jT (pv 4) (ja (jo jz (pv 1) (pv 7)) jc)))
    (jf (jp (i:=5) JY.nd rfl (.inr rfl) (jr wz (pv 5) (jo jz (pv 2) (pv 7))))))
    jw))))))
  (jf (jx (Jn JU (by rfl) T.ZL zG (ja (pv 4) jc))))))),?_⟩
 rotate_right 405
 have a4:=N.tF;have m8:∀j,⇑(Ms.getD j [])<=8:=λj=>by
  by_cases h:j<⇑m
  .exact(N.mv h).choose_spec.2.2.1
  .rw[vy,List.getElem?_eq_none (by have:=N.ml;lia)];exact va _
 exists⟨va _,?_⟩;walk_at"f ps hps H1 s1 t1";exists⟨va _,?_⟩;walk_at"f pu hpu H2 s2 t2";have R:=s1.trans s2;have B:∀{c u},H c=some u->c≠ps:=λh=>je h hps
 have a3:pu≠ps:=(je t1 hpu).symm;exists⟨_,_,rfl,.inl ⟨_,cm.of (R _ _ N.en),rfl⟩,?_⟩;rw[vt];exists⟨_,rfl,⋯,⋯,?_⟩;refine qG (λt σ p=>mq λ(o6 o7 o8:N3) (e:Addr)=>fC (σ=[~~~n,↥nl,↥ml,some (.str o),↥ps,↥e,o6,o7,o8]) (e≠ps) (∀c u,H c=some u->p c=some u) (p ps=some (.lst (((fg n ⇑m Ms (decide (o = "row")) t).1.map λj=>m.getD j ⟨#[]⟩).map V.str))/\p e=some (.lst ((fg n ⇑m Ms (decide (o = "row")) t).2.map V.str)))) ⟨_,_,_,pu,rfl,a3,R,s2 _ _ t1,t2⟩ ?_ ?_
 .rintro t σ H3 ht ⟨o6,o7,o8,e,rfl,g,C,I,X⟩;have m0:=ve n (show(3:Int)≠0 by decide);have m1:=vf n (show(0:Int)<3 by decide);exists⟨_,_,rfl,.inl ⟨_,cm.of (C _ _ N.en),rfl⟩,?_⟩;rw[vt];exists⟨_,_,rfl,.inl ⟨_,cm.of (C _ _ N.en),rfl⟩,?_⟩;rw[vt];ac_nf;have J:((⇑m:Int)-1-(0+(t:Int))*(1+n%3))%(⇑m:Int)=((lM n ⇑m t:Nat):Int):=by
   unfold lM;have a:=ve ((⇑m:Int)-1-(t:Int)*(1+n%3)) (show(⇑m:Int)≠0 by lia);rw[ut];lia
  rw[J];have W:=Av (n:=n) (t:=t) n1;have d:=Hw (n:=n) (len:=⇑m) (Ms:=Ms) (ro:=decide (o = "row")) t;have us:=D7 (n:=n) (len:=⇑m) (ro:=decide (o = "row")) m8 t;have sl:=Wl (n:=n) (len:=⇑m) (Ms:=Ms) (ro:=decide (o = "row")) t;generalize fg n ⇑m Ms (decide (o = "row")) t=S at I X d us sl;generalize lM n ⇑m t=j at W d|-;clear J;let⟨ma,a0,v,a2,mw⟩:=N.mv W;have aM:ft (a1.map V.ref) ((j:Nat):Int)=↥ma:=jS (by rw[vv,a0];rfl);refine cE (cm.of (C _ _ N.em)) (aM) ?_;refine⟨ma,rfl,⟨_,cm.of (C _ _ v)⟩,?_⟩;refine JJ (xs:=(Ms.getD j []).map V.str) (λi ys p=>ys=(((Ms.getD j []).take i).filter λs=>decide (s∈S.2)).map V.str/\H3=p) ⟨rfl,rfl⟩ ?_ ?_ ?_
  .rintro i ys p _ ⟨rfl,rfl⟩;exact cm.of (C _ _ v)
  .rintro i x ys p Y ⟨rfl,rfl⟩;rw[vv]at Y;let⟨k,M,rfl⟩:=vg.mp Y;have ik:=(vx.mp M).1;refine JW (S':=[none,some _]) rfl ?_;exists⟨e,_,rfl,.inl (cm.of X),rfl,lP _,?_⟩;rw[BO];ac_nf;rw[take_snoc M,filter_append];have lf:⇑(((Ms.getD j []).take i).filter λs=>decide (s∈S.2))<=8:=vW (length_filter_le _ _) (by rw[vi];lia);refine cH (λc=>?_) (λc=>?_)
   .exists⟨by rw[vt];lia,?_,rfl⟩;rw[vj,ux,vd (vG c),filter_nil];rfl
   .refine⟨?_,rfl⟩;rw[ux,vc (by rw[vH c];exact vF),filter_nil,append_nil]
  rintro ys p ⟨rfl,rfl⟩;rw[show((Ms.getD j []).map V.str).length=⇑(Ms.getD j []) from vt _,v8];have lf:⇑((Ms.getD j []).filter λs=>decide (s∈S.2))<=8:=vW (length_filter_le _ _) a2;have wf:∀x∈(Ms.getD j []).filter (λs=>decide (s∈S.2)),Ws.fG x=true:=λx Y=>mw x (vP.mp Y).1
  refine⟨by rw[vt];lia,?_⟩;sleep 5;have k5:cj H H5:=λc u h=>s5 _ _ (C _ _ h)
  have y:=s5 _ _ I;have r:=s5 _ _ X;have n5:p5≠ps:=(je I hp5).symm;exists⟨λS' p=>eD λ(U:L6)=>fC (S'=[~~~n,↥nl,↥ml,some (.str o),↥ps,↥e,some (.int (0+(t:Int))),some (.int (j:Nat)),↥p5]) (∀c u,c≠ps->H5 c=some u->p c=some u) (p ps=some (.lst ((U.map λj=>m.getD j ⟨#[]⟩).map V.str))) ((o = "row"->U=(fg n ⇑m Ms (decide (o = "row")) (t+1)).1/\(fg n ⇑m Ms (decide (o = "row")) (t+1)).2=S.2)/\(o≠"row"->U=S.1)),?_,?_⟩
  rotate_left
  .exists cH (λc=>?_) (λc=>?_)
   .rw[vd (vG c)]at d;exists cH (λc2=>?_) (λc2=>?_)
    .rw[vd ⋯]at d;exists⟨.inl ⟨rfl,_,cm.of y⟩,?_⟩;exists cE (cm.of (k5 _ _ N.en)) (ZJ W) ?_;exists⟨ps,_,_,rfl,rfl,y,by rw[vt,vt];lia,?_⟩;refine⟨S.1++[j],rfl,λc u hc h=>(jg hc).trans h,?_,λ_=>by rw[d];exact⟨rfl,rfl⟩,λh=>ub c h⟩;rw[jA,vj,vj];rfl
    .rw[vc ⋯]at d;ac_nf;exact⟨S.1,rfl,λc u _ h=>h,y,λ_=>by rw[d];exact⟨rfl,rfl⟩,λh=>ub c h⟩
   .ac_nf;exact⟨S.1,rfl,λc u _ h=>h,y,λh=>ub h c,λ_=>rfl⟩
  rintro S' H6 ⟨U,rfl,G,D,O,F⟩;have l:cj H H6:=λc u h=>G _ _ (B h) (k5 _ _ h)
  exists cH (λc=>?_) (λc=>?_)
  .have nr:o≠"row":=λz=>by rw[z]at c;exact ub c ∅
   obtain rfl:=F nr;rw[vc (by rw[vH nr];exact vF)]at d;exists cE (cm.of (l _ _ N.em)) (aM) ?_;exists⟨va _,?_⟩;sleep 7;refine⟨_,_,.lst (s7 _ _ (l _ _ v)) (zX _),so t7,mZ mw,mY,?_⟩;rw[mU];exists mx (λd1=>?_) (λd1=>?_)
   .exists⟨va _,?_⟩;sleep 8;have f:=s7.trans s8;refine⟨_,_,.lst (f _ _ (G _ _ n5 t5)) (zX _),so t8,mZ wf,mY,?_⟩;rw[mU];exists cH (λd2=>?_) (λd2=>?_)
    .exists⟨_,_,rfl,.inl ⟨_,cm.of (f _ _ D),rfl⟩,?_⟩;rw[vt,vt];exists cH (λd3=>?_) (λd3=>?_)
     .rw[vd ⟨d1,d2,⋯⟩]at d;exists⟨.inl ⟨rfl,_,cm.of (f _ _ D)⟩,?_⟩;exists cE (cm.of (f _ _ (l _ _ N.en))) (ZJ W) ?_;exists⟨ps,_,_,rfl,rfl,f _ _ D,by rw[vt,vt];lia,?_⟩;generalize eG:upd H8 ps _=H9;have e9:H9 ps=some (.lst (((S.1++[j]).map λj=>m.getD j ⟨#[]⟩).map V.str)):=by
       rw[vj,vj];exact Qn eG
      have Z:∀c u,c≠ps->H6 c=some u->H9 c=some u:=λc u hc h=>eG▸(jg hc).trans (f c u h)
      clear eG;exists cE (cm.of (Z _ _ (B N.em) (l _ _ N.em))) (aM) ?_;refine⟨e,ma,_,_,rfl,rfl,Z _ _ g (G _ _ g r),Z _ _ (B v) (l _ _ v),by rw[vt,vt];lia,?_⟩;sleep 10;exists⟨_,_,_,p10,rfl,(je e9 hp10).symm,λc u h=>s10 _ _ (Z _ _ (B h) (l _ _ h)),by rw[d];exact s10 _ _ e9,by rw[d,vj];exact t10⟩
     .rw[vc (λz=>d3 ⋯)]at d;ac_nf;exact⟨_,_,_,e,rfl,g,λc u h=>f _ _ (l _ _ h),by rw[d];exact f _ _ D,by rw[d];exact f _ _ (G _ _ g r)⟩
    .rw[vc (λz=>d2 z.2.1)]at d;ac_nf;exact⟨_,_,_,e,rfl,g,λc u h=>f _ _ (l _ _ h),by rw[d];exact f _ _ D,by rw[d];exact f _ _ (G _ _ g r)⟩
   .rw[vc (λz=>z.1 d1)]at d;ac_nf;exact⟨_,_,_,e,rfl,g,λc u h=>s7 _ _ (l _ _ h),by rw[d];exact s7 _ _ D,by rw[d];exact s7 _ _ (G _ _ g r)⟩
  .have cr:o = "row":=hk.resolve_right c;let⟨r1,r2⟩:=O cr;ac_nf;exact⟨_,_,_,e,rfl,g,l,by rw[<-r1];exact D,by rw[r2];exact G _ _ g r⟩
 .rintro σ p ⟨o6,o7,o8,e,rfl,g,C,I,X⟩;exists⟨ps,_,rfl,.inl ⟨cm.of I,?_⟩⟩;walk_at"f b hb H3 s3 t3";exact q b H3 (λc u h=>s3 _ _ (C _ _ h)) t3
def Fb(T:Txt K mg t)(M:1<*t.zS t.zV ["_law_number","_law_names","_law_movers","_law_kind"] (g5)):2<*t.Yo t.Yz ["_law_number","_law_names","_law_movers","_law_limbs","_law_bounds"] (iL):=by
 specialize T.wM.F.ok Qf;let⟨n,C,I,pl,bd,p,ac,B,d,Ms,b0,b1,b2,b3,b4,rfl,N,L,Bd,n0,n2,q⟩:=h;refine⟨_,(jb (cM 5 Qf.nd (jr j3 (pv 0) jd))
  (jb (cM 6 Qf.nd (jr Jj (pv 0) jd))
  (jb (cM 7 Qf.nd (jr jR jd (jr j3 (jr Jj (pv 0) (jr zN jd jd)) (jo jz (pv 4) (jr j3 (jr Jj (pv 0) jd) jd)))))
  (jb (Q2 (PW.pt (Q3 (jt (A1 hr.units) (pv 1) (jO jc) (cg _)) (Qv (jt kq (pv 5) jd (cg _)))))
   (jf (cM 5 Qf.nd (jr j3 (jr Jj (pv 0) jd) jd)))
   jw)
  (jb (jP (jt Ya (pv 5) jd (cg _))
   (jf (jx (jH (ja jI (ja (jo jv (jo jz (pv 3) (jr j3 (pv 6) (jE jY (by rfl) T.JZ Jp (ja (pv 3) jc)))) jd) (ja (jr j3 (jr Jj (pv 6) jd) (jo jz (pv 4) jd)) (ja (pv 7) jc)))))))
   jw)
  (jb (jP (jt Jb (pv 5) jd (cg _))
   (jf (jx (jH (ja jI (ja (jo jz (jr wz (jr wz (jO (ja jI (ja jI jc))) (qR De (pv 1) Q1 (Qe jd))) (jO (ja jI jc))) (jr j3 (pv 6) jd)) (ja (pv 7) jc))))))
   jw)
  (jb (jP (jt Jb (pv 5) jd (cg _))
   (jf (jx (jH (ja jI (ja (jq T.zP M hr (ja (pv 6) (ja (pv 1) (ja (pv 2) (ja jI jc))))) jc)))))
   jw)
  (jb (jP (PW.pt (Q3 (jt Jb (pv 5) jd (cg _)) (Qv (jt kq (jE jY (by rfl) T.JZ Jp (ja (jq T.zP M hr (ja (pv 6) (ja (pv 1) (ja (pv 2) (ja jI jc))))) jc)) jd (cg _)))))
   (jf (jx (jH (ja jI (ja (jq T.zP M hr (ja (pv 6) (ja (pv 1) (ja (pv 2) (ja jI jc))))) jc)))))
   jw)
  (jb (jP (jt Jb (pv 5) jd (cg _))
   (jb (cM 8 Qf.nd (jr qP (jr qP (jE jY (by rfl) T.JZ Jp (ja (pv 1) jc)) jd) (jr j3 (pv 6) (jE (YZ rfl) (by rfl) T.uS X0 (ja jd (ja (jE jY (by rfl) T.JZ Jp (ja (pv 1) jc)) jc))))))
   (jf (jx (jH (ja jI (ja (jr jR jd (jr j3 (jr Jj (pv 0) (jr zN jd jd)) (jo jz (pv 4) jd))) (ja (jo jz (pv 1) (pv 8)) jc)))))))
   jw)
  (jf (jx (jH (ja jI (ja (pv 7) jc)))))))))))))),?_⟩
 rotate_right 504
 have ad:=N.tF;have l1:=L.l1;have a1:=L.la.1;let⟨eb,O,R,S,U,a2,a3,a4,a5,a6,a7⟩:=Bd;have k0:=ve n (show(8:Int)≠0 by decide);have k1:=vf n (show(0:Int)<8 by decide);have i0:=ve (n/8) (show(2:Int)≠0 by decide);have i1:=vf (n/8) (show(0:Int)<2 by decide);let⟨m,X,a8,a9⟩:=rq (b2:=b2) (b3:=b3) (b4:=b4) ⟨O,R⟩ ⟨S,U⟩ i0 i1;have m0:0<=n/100:=⋯
 have m1:n/100<=10^40:=⋯
 have v0:=ve (n/10^12) (show m≠0 by lia);have v1:=vf (n/10^12) (show 0<m by lia);exists Ep ?_;exists cE (cm.of eb) (X) ?_;exists⟨λS' H'=>eD λ(y:Int)=>fC (S'=[~~~n,↥C,↥I,↥pl,↥bd,~~~y,some (.int (n/100)),some (.int (1+n/10^12%m)),none]) (cj H H') (0<=y) (y<8/\(4<y->1<=⇑d)),?_,?_⟩
 rotate_left
 .exists⟨va _,?_⟩;walk_at"f e3 he3 H3 s3 t3";refine⟨_,_,.lst (s3 _ _ N.en) (zX _),so t3,mZ N.w,mY,?_⟩;rw[mU];exists cH (λc=>?_) (λc=>?_)
  .exists cH (λc2=>?_) (λc2=>?_)
   .ac_nf;have F:=ve (n/16) (show(5:Int)≠0 by decide);have w1:=vf (n/16) (show(0:Int)<5 by decide);exact⟨_,rfl,s3,F,⋯,λh=>ub h ⋯⟩
   .ac_nf;exact⟨_,rfl,s3,k0,k1,λh=>ub h c2⟩
  .ac_nf;exact⟨_,rfl,s3,k0,k1,λ_=>length_pos_iff.mpr c⟩
 rintro S' H1 ⟨y,rfl,f,aa,ab,kn⟩;have l:=N.same f;have g:=L.same f;have u:=f _ _ eb;exists cH (λc=>?_) (λc=>?_)
 .exists⟨_,_,rfl,.inl ⟨_,cm.of g.el,rfl⟩,?_⟩;rw[vt,a1];ac_nf;have F:=ve (n/100) (show(⇑B:Int)≠0 by lia);have w1:=vf (n/100) (show(0:Int)<(⇑B:Int) by lia);generalize n/100%(⇑B:Int)=r at F w1|-;obtain⟨j,rfl⟩:∃j:Nat,r=(j:Int):=⟨r.toNat,⋯⟩
  have x:j<⇑B:=⋯
  let⟨lk,Z,Y⟩:=g.la.get (vz x);refine cE (cm.of g.el) (jS (j:=j) (by rw[vv,Z];rfl)) ?_;exists cz Y ?_;exists cE (cm.of u) rfl ?_;ac_nf;have h0:=ve (n/100/10) (show b2≠0 by lia);have h1:=vf (n/100/10) (show 0<b2 by lia);refine⟨uC,?_⟩;walk_at"f b6 hb6 H6 s6 t6";refine q b6 (.rise B[j].1 (n/100/10%b2) (1+n/10^12%m)) H6 (f.trans s6) t6 ⟨⟨j,?_⟩,h0,⋯,⋯,⋯⟩;unfold cb;rw[vv,vz x];rfl
 exists cH (λc4=>?_) (λc4=>?_)
 .exists⟨uA,?_⟩;walk_at"f b3 hb3 H3 s3 t3";exists⟨C,_,rfl,cm.of (s3 _ _ l.en),?_⟩;walk_at"f b4 hb4 H4 s4 t4";have cl:=ZM (d.map V.str) none (some 1);rw[vt]at cl;refine⟨b3,b4,_,_,rfl,rfl,s4 _ _ t3,t4,by show 2+_<=sizeLine;lia,?_⟩;walk_at"f b5 hb5 H5 s5 t5";exists⟨ua,?_⟩;walk_at"f b6 hb6 H6 s6 t6";refine⟨b5,b6,_,_,rfl,rfl,s6 _ _ t5,t6,by rw[vn];show 2+_+1<=sizeLine;lia,?_⟩;walk_at"f b7 hb7 H7 s7 t7";ac_nf;have F:=ve (n/100) (show(3:Int)≠0 by decide);have w1:=vf (n/100) (show(0:Int)<3 by decide);have a0:∀v∈[V.str "ding",V.str "dong"]++fF (d.map V.str) none (some 1)++[V.str "din"],∃w:Str,v = .str w/\Ws.fG w=true:=λv hv=>by
   rcases vh.mp hv with z | z
   .rcases vh.mp z with z | z
    .rcases mem_cons.mp z with rfl | z
     .exact⟨_,rfl,by trivial⟩
     .rw[vo.mp z];exact⟨_,rfl,by trivial⟩
    .let⟨J,o,rfl⟩:=vK.mp (CY z);exact⟨J,rfl,N.w J o⟩
   .rw[vo.mp z];exact⟨_,rfl,by trivial⟩
  let⟨J,o,ww⟩:=BS (k:=n/100%3) a0 F (by rw[vn,vn];show _<(((2+_+1:Nat)):Int);lia);refine cE (cm.of t7) (o) ?_;exists⟨uB,?_⟩;walk_at"f b8 hb8 H8 s8 t8";exact q b8 (.ring J (1+n/10^12%m)) H8 (f.trans (s3.trans (s4.trans (s5.trans (s6.trans (s7.trans s8)))))) t8 ⟨⋯,⋯,ww⟩
 exists cH (λc5=>?_) (λc5=>?_)
 .have e:=kn ⋯;exists⟨_,C,I,p,_,d,Ms,"row",rfl,l,e,m0,m1,.inl rfl,λb2 H2 D W=>?_⟩;exists⟨uA,?_⟩;walk_at"f b6 hb6 H6 s6 t6";have ln:=Wl (n:=n/100) (len:=⇑d) (Ms:=Ms) (ro:=decide (("row" : Str) = "row")) ⇑d;refine q b6 (.row (fg (n/100) ⇑d Ms (decide (("row" : Str) = "row")) ⇑d).1) H6 (f.trans (D.trans s6)) ⟨b2,t6,s6 _ _ W⟩ ⟨D5 ∅ _ e,⋯,AZ e _⟩
 exists cH (λc6=>?_) (λc6=>?_)
 .have e:=kn ⋯;exists⟨_,C,I,p,_,d,Ms,"side",rfl,l,e,m0,m1,.inr rfl,λb2 H2 D W=>?_⟩;have ln:=Wl (n:=n/100) (len:=⇑d) (Ms:=Ms) (ro:=decide (("side" : Str) = "row")) ⇑d;refine⟨_,_,rfl,.inr ⟨_,cJ.of W,rfl⟩,?_⟩;rw[vt,vt];exists cH (λc7=>?_) (λc7=>?_)
  .exists⟨_,C,I,p,_,d,Ms,"side",rfl,l.same D,e,m0,m1,.inr rfl,λb3 H3 s3 e3=>?_⟩;exists⟨uA,?_⟩;walk_at"f b6 hb6 H6 s6 t6";refine q b6 (.side (fg (n/100) ⇑d Ms (decide (("side" : Str) = "row")) ⇑d).1) H6 (f.trans (D.trans (s3.trans s6))) ⟨b3,t6,s6 _ _ e3⟩ ⟨⋯,⋯,AZ e _,(D4 ∅ _).1.n N.il⟩
  .exists cH (λG=>?_) (λG=>?_)
   .exact ub G ⋯
   exists⟨uA,?_⟩;walk_at"f b6 hb6 H6 s6 t6";exact q b6 (.hold (1+n/10^12%m)) H6 (f.trans (D.trans s6)) t6 ⟨⋯,⋯⟩
 refine gq ?_;exists cH (λG=>?_) (λG=>?_)
 .have e:=kn ⋯;exists⟨_,_,rfl,.inl ⟨_,cm.of l.en,rfl⟩,?_⟩;rw[vt];exists⟨_,_,rfl,.inl ⟨_,cm.of l.en,rfl⟩,?_⟩;rw[vt];refine⟨_,_,rfl,?_⟩;dsimp only;ac_nf;obtain⟨j,ej,x⟩:∃j:Nat,(⇑d:Int)-1-n/100%(if(⇑d:Int)<3 then(⇑d:Int)else 3)=(j:Int)/\j<⇑d:=by
   have a:=ve (n/100) (show(if(⇑d:Int)<3 then(⇑d:Int)else 3)≠0 by split<;>lia);have b:=vf (n/100) (show 0<(if(⇑d:Int)<3 then(⇑d:Int)else 3) by split<;>lia);generalize n/100%(if(⇑d:Int)<3 then(⇑d:Int)else 3)=z at a b|-;refine⟨((⇑d:Int)-1-z).toNat,?_,?_⟩
   .split at b<;>lia
   .split at b<;>lia
  rw[ej];refine Ep ?_;exists cE (cm.of u) rfl ?_;ac_nf;have h0:=ve (n/10^12) (show b3≠0 by lia);have h1:=vf (n/10^12) (show 0<b3 by lia);refine cE (cm.of l.en) (ZJ x) ?_;exists⟨uB,?_⟩;walk_at"f b6 hb6 H6 s6 t6";exact q b6 (.again (1+n/10^12%b3) j) H6 (f.trans s6) t6 ⟨⋯,⋯,x⟩
 exists⟨uA,?_⟩;walk_at"f b6 hb6 H6 s6 t6";exact q b6 (.hold (1+n/10^12%m)) H6 (f.trans s6) t6 ⟨⋯,⋯⟩
def Fd(T:Txt K mg t):1<*t.zD t.zI ["_law_form_here","_law_known"] (gI):=by
 specialize T.zx.F.ok Fo;let⟨C,d,f,o,F,L,M,rfl,y,J,U,W,p,N,q⟩:=h;refine⟨_,(jb (jP (jt Jb (jo jv (pv 0) jd) jI (cg _))
   (jf (jx (jE (K4 rfl) (by rfl) T.Ba AA (ja (JO (ow:=["_law_name"]) (ci:=[1]) rfl (cq.of (cf zL) ["_law_form_here","_law_known"] rfl rfl ∅) (Qs nofun) (xf (jo jv (pv 0) jd)) (λ_ _ _ _ _=>⟨(cW 0 (j6 ["_law_form_here","_law_known"] rfl ∅)),qS,(Qu (qp hr) (pv 1) (pv 0))⟩)) jc))))
   jw)
  (jb (jP (jt Jb (jo jv (pv 0) jd) jI (cg _))
   (jf (jx (jE (Xl rfl) (by rfl) T.A9 Az (ja (JO (ow:=["_law_name"]) (ci:=[1]) rfl (cq.of (cf zL) ["_law_form_here","_law_known"] rfl rfl ∅) (Qs nofun) (xf (jo jv (pv 0) jd)) (λ_ _ _ _ _=>⟨(cW 0 (j6 ["_law_form_here","_law_known"] rfl ∅)),qS,(Qu (qp hr) (pv 1) (pv 0))⟩)) jc))))
   jw)
  (jb (jP (jt Jb (jo jv (pv 0) jd) jI (cg _))
   (jf (jx (jr Q0 (jo jv (pv 0) jd) (Qu (qp hr) (pv 1) (jo jv (pv 0) jd)))))
   jw)
  (jf (jx (jo jv (pv 0) (jr qP (jE jY (by rfl) T.JZ Jp (ja (pv 0) jc)) jd))))))),?_⟩
 rotate_right 200
 have u:∀j,j<⇑o->dA H d (.str (o.getD j ⟨#[]⟩)) (some (.int (F∘j))):=λj l=>by
  have g:=dA.k (k:=Sum.inr (o.getD j ⟨#[]⟩)) J;rw[Wk U W l]at g;exact g
 let⟨D,c⟩:=p.js;cases f with
 | hold n=>
  have a:H C=some (.tup _):=y;exists cz a ?_;exists cv ?_;exists cz a ?_;exists cv ?_;exists cz a ?_;exists cv ?_;exists⟨_,_,rfl,.inr ⟨_,cJ.of a,rfl⟩,?_⟩;exists cz a ?_;exact q _ H (cj.refl _) rfl
 | ring x n=>
  have a:H C=some (.tup _):=y;exists cz a ?_;exists cv ?_;exists cz a ?_;exists cv ?_;exists cz a ?_;exists cv ?_;exists⟨_,_,rfl,.inr ⟨_,cJ.of a,rfl⟩,?_⟩;exists cz a ?_;exact q _ H (cj.refl _) rfl
 | rise x h n=>
  have a:H C=some (.tup _):=y;exists cz a ?_;exists cv ?_;exists cz a ?_;exists cv ?_;exists cz a ?_;exists cv ?_;exists⟨_,_,rfl,.inr ⟨_,cJ.of a,rfl⟩,?_⟩;exists cz a ?_;exact q _ H (cj.refl _) rfl
 | row is=>
  let⟨b,a,z⟩:=y;have D:⇑is<=8:=D;have c:∀j∈is,j<⇑o:=c;exists cz a ?_;exists cY ?_;exists cz a ?_;refine⟨b,rfl,⟨_,cJ.of z⟩,?_⟩;refine Yv (xs:=(is.map λj=>o.getD j ⟨#[]⟩).map V.str) (λt r m=>r=((is.take t).map λj=>F∘j).map V.int/\H=m) ⟨rfl,rfl⟩ ?_ ?_ ?_
  .rintro t r m _ ⟨rfl,rfl⟩;exact cJ.of z
  .rintro t v r m B ⟨rfl,rfl⟩;rw[vv,vv]at B;let⟨x,G,rfl⟩:=vg.mp B;let⟨j,l,rfl⟩:=vg.mp G;have S:=(vx.mp l).1;refine JW (S':=[none,↥d]) rfl ?_;exists eB ?_;exists⟨d,_,rfl,u j (c j (vm l)),?_⟩;refine⟨by rw[vt,vt,vi];lia,?_,rfl⟩;rw[take_snoc l,vj,vj];rfl
  rintro r m ⟨rfl,rfl⟩;rw[show((is.map λj=>o.getD j ⟨#[]⟩).map V.str).length=⇑is by rw[vt,vt],v8];refine⟨by rw[vt,vt];lia,?_⟩;sleep 1;exists⟨p1,_,rfl,cm.of t1,?_⟩;exact q _ H1 s1 rfl
 | side is=>
  let⟨b,a,z⟩:=y;have D:⇑is<=8:=D;have c:∀j∈is,j<⇑o:=c;have Y:=p.1;exists cz a ?_;exists cv ?_;exists cz a ?_;exists cY ?_;exists cz a ?_;refine⟨b,rfl,⟨_,cJ.of z⟩,?_⟩;refine Yv (xs:=(is.map λj=>o.getD j ⟨#[]⟩).map V.str) (λt r m=>r=((is.take t).map λj=>F∘j).map V.int/\H=m) ⟨rfl,rfl⟩ ?_ ?_ ?_
  .rintro t r m _ ⟨rfl,rfl⟩;exact cJ.of z
  .rintro t v r m B ⟨rfl,rfl⟩;rw[vv,vv]at B;let⟨x,G,rfl⟩:=vg.mp B;let⟨j,l,rfl⟩:=vg.mp G;have S:=(vx.mp l).1;refine JW (S':=[none,↥d]) rfl ?_;exists eB ?_;exists⟨d,_,rfl,u j (c j (vm l)),?_⟩;refine⟨by rw[vt,vt,vi];lia,?_,rfl⟩;rw[take_snoc l,vj,vj];rfl
  rintro r m ⟨rfl,rfl⟩;rw[show((is.map λj=>o.getD j ⟨#[]⟩).map V.str).length=⇑is by rw[vt,vt],v8];refine⟨by rw[vt,vt];lia,?_⟩;sleep 1;exists⟨p1,_,rfl,cm.of t1,by rw[vt];lia,λg O R=>?_⟩;let⟨j,l,e⟩:=vK.mp O;exact q g H1 s1 ⟨⟨j,l,e.symm⟩,λj l=>R _ (vK.mpr ⟨j,l,rfl⟩)⟩
 | again k j=>
  have a:H C=some (.tup _):=y;have I:=c j vq;have X:=N j I;have Z:=p.1;have k2:=p.2.1;exists cz a ?_;exists cv ?_;exists cz a ?_;exists cv ?_;exists cz a ?_;exists cY ?_;exists cz a ?_;exists cz a ?_;exists⟨d,_,rfl,u j I,?_⟩;ac_nf;exact q _ H (cj.refl _) rfl
def xR(T:Txt K mg t):1<*t.QT t.QW ["_law_form_here","_law_names","_law_movers"] (fY):=by
 specialize T.yB.F.ok JX;let⟨C,G,R,a7,f,I,Ms,L,M,rfl,X,en,em,aM,nd,ln,ac,J,k4,q⟩:=h;refine⟨_,(jb (jP (jt Jb (jo jv (pv 0) jd) jI (cg _))
   (jf (jx (jO (ja (jo jv (pv 0) jd) jc))))
   jw)
  (jb (cM 3 JX.nd (jO jc))
  (jb (Q2 (PW.pt (Bh (jt Jb (jo jv (pv 0) jd) jI (cg _)) (AJ (jt Jb (jo jv (pv 0) jd) jI (cg _)))))
   (jf (cM 3 JX.nd (Jn qt (by rfl) T.yG zU (ja (jo jv (pv 0) jd) jc))))
   jw)
  (jb (Q2 (jt Jb (jo jv (pv 0) jd) jI (cg _))
   (jf (cM 3 JX.nd (jO (ja (jo jv (pv 0) jd) jc))))
   jw)
  (jb (cM 4 JX.nd (jO jc))
  (jb (Jd PassesOwn.never rfl (Ja (pv 3)) (cW 5 JX.nd)
   (jf (Jd PassesOwn.never rfl (Ja (jo jz (pv 2) (qa q5 PySem.F.slot_list_index PySem.F.type_list_index G6 (pv 1) (ja (pv 5) jc)))) (cW 6 JX.nd)
    (jf (jP (jt Fl (pv 6) (pv 4) (by with_unfolding_all rfl))
     (jf (jV (qa q5 q7 iA jT (pv 4) (ja (pv 6) jc))))
     jw)))))
  (jf (jx (pv 4))))))))),?_⟩
 rotate_right 304
 cases f
 case rise x h n=>
  have o:H C=some (.tup _):=X;exists cz o ?_;exists cY ?_;exists cz o ?_;exists⟨ua,?_⟩;sleep 1;refine q p1 [x] H1 s1 hp1 t1 ⟨pairwise_singleton _ _,λs=>?_⟩ (by show 1<=80;decide);rw[vo];constructor
  .rintro rfl;exact .inr ⟨h,n,rfl⟩
  .rintro(⟨j,hj,_⟩ | ⟨h',n',e⟩)
   .exact nomatch hj
   .injection e with e1;exact e1.symm
 case' hold n=>
  have o:H C=some (.tup _):=X;exists cz o ?_;exists cv ?_;exists⟨va _,?_⟩;sleep 1;have l:=s1 _ _ o;exists⟨λS' g=>eD λ(d:Addr)=>eS (S'=[↥C,↥G,↥R,↥d,none,none,none]) (cj H g/\g d=some (.lst (((tN (Fn.hold n)).map λj=>I.getD j ⟨#[]⟩).map V.str))),?_,?_⟩
  rotate_left
  .exists cz l ?_;exists cv ?_;exists cz l ?_;exists cv ?_;ac_nf;exact⟨p1,rfl,s1,t1⟩
  rintro S' H2 ⟨p2,rfl,m,e2⟩;have r:=m _ _ o;exists⟨λS' g=>eD λ(d:Addr)=>eS (S'=[↥C,↥G,↥R,↥d,none,none,none]) (cj H g/\g d=some (.lst (((Fn.hold n).js.map λj=>I.getD j ⟨#[]⟩).map V.str))),?_,?_⟩
  rotate_left
  .exists cz r ?_;exists cv ?_;ac_nf;exact⟨p2,rfl,m,e2⟩
  rintro S' H3 ⟨d,rfl,D,O⟩;have W:∀Z u1 u2,(Fn.hold n)≠.rise Z u1 u2:=λ_ _ _ z=>by cases z
  clear X;generalize(Fn.hold n)=f at O W J q
 case' ring x n=>
  have o:H C=some (.tup _):=X;exists cz o ?_;exists cv ?_;exists⟨va _,?_⟩;sleep 1;have l:=s1 _ _ o;exists⟨λS' g=>eD λ(d:Addr)=>eS (S'=[↥C,↥G,↥R,↥d,none,none,none]) (cj H g/\g d=some (.lst (((tN (Fn.ring x n)).map λj=>I.getD j ⟨#[]⟩).map V.str))),?_,?_⟩
  rotate_left
  .exists cz l ?_;exists cv ?_;exists cz l ?_;exists cv ?_;ac_nf;exact⟨p1,rfl,s1,t1⟩
  rintro S' H2 ⟨p2,rfl,m,e2⟩;have r:=m _ _ o;exists⟨λS' g=>eD λ(d:Addr)=>eS (S'=[↥C,↥G,↥R,↥d,none,none,none]) (cj H g/\g d=some (.lst (((Fn.ring x n).js.map λj=>I.getD j ⟨#[]⟩).map V.str))),?_,?_⟩
  rotate_left
  .exists cz r ?_;exists cv ?_;ac_nf;exact⟨p2,rfl,m,e2⟩
  rintro S' H3 ⟨d,rfl,D,O⟩;have W:∀Z u1 u2,(Fn.ring x n)≠.rise Z u1 u2:=λ_ _ _ z=>by cases z
  clear X;generalize(Fn.ring x n)=f at O W J q
 case' row is=>
  let⟨b,o,hb⟩:=X;exists cz o ?_;exists cv ?_;exists⟨va _,?_⟩;sleep 1;have l:=s1 _ _ o;exists⟨λS' g=>eD λ(d:Addr)=>eS (S'=[↥C,↥G,↥R,↥d,none,none,none]) (cj H g/\g d=some (.lst (((tN (Fn.row is)).map λj=>I.getD j ⟨#[]⟩).map V.str))),?_,?_⟩
  rotate_left
  .exists cz l ?_;exists cY ?_;refine eB ?_;exists cz l ?_;exists⟨b,_,rfl,.inr (cJ.of (s1 _ _ hb)),?_⟩;sleep 2;ac_nf;exact⟨p2,rfl,s1.trans s2,t2⟩
  rintro S' H2 ⟨p2,rfl,m,e2⟩;have r:=m _ _ o;exists⟨λS' g=>eD λ(d:Addr)=>eS (S'=[↥C,↥G,↥R,↥d,none,none,none]) (cj H g/\g d=some (.lst (((Fn.row is).js.map λj=>I.getD j ⟨#[]⟩).map V.str))),?_,?_⟩
  rotate_left
  .exists cz r ?_;exists cv ?_;ac_nf;exact⟨p2,rfl,m,e2⟩
  rintro S' H3 ⟨d,rfl,D,O⟩;have W:∀Z u1 u2,(Fn.row is)≠.rise Z u1 u2:=λ_ _ _ z=>by cases z
  generalize(Fn.row is)=f at O W J q;clear o hb
 case' side is=>
  let⟨b,o,hb⟩:=X;exists cz o ?_;exists cv ?_;exists⟨va _,?_⟩;sleep 1;have l:=s1 _ _ o;exists⟨λS' g=>eD λ(d:Addr)=>eS (S'=[↥C,↥G,↥R,↥d,none,none,none]) (cj H g/\g d=some (.lst (((tN (Fn.side is)).map λj=>I.getD j ⟨#[]⟩).map V.str))),?_,?_⟩
  rotate_left
  .exists cz l ?_;exists cv ?_;exists cz l ?_;exists cY ?_;exists cz l ?_;exists⟨b,_,rfl,.inr (cJ.of (s1 _ _ hb)),?_⟩;sleep 2;ac_nf;exact⟨p2,rfl,s1.trans s2,t2⟩
  rintro S' H2 ⟨p2,rfl,m,e2⟩;have r:=m _ _ o;exists⟨λS' g=>eD λ(d:Addr)=>eS (S'=[↥C,↥G,↥R,↥d,none,none,none]) (cj H g/\g d=some (.lst (((Fn.side is).js.map λj=>I.getD j ⟨#[]⟩).map V.str))),?_,?_⟩
  rotate_left
  .exists cz r ?_;exists cv ?_;ac_nf;exact⟨p2,rfl,m,e2⟩
  rintro S' H3 ⟨d,rfl,D,O⟩;have W:∀Z u1 u2,(Fn.side is)≠.rise Z u1 u2:=λ_ _ _ z=>by cases z
  generalize(Fn.side is)=f at O W J q;clear o hb
 case' again k j=>
  have o:H C=some (.tup _):=X;exists cz o ?_;exists cv ?_;exists⟨va _,?_⟩;sleep 1;have l:=s1 _ _ o;exists⟨λS' g=>eD λ(d:Addr)=>eS (S'=[↥C,↥G,↥R,↥d,none,none,none]) (cj H g/\g d=some (.lst (((tN (Fn.again k j)).map λj=>I.getD j ⟨#[]⟩).map V.str))),?_,?_⟩
  rotate_left
  .exists cz l ?_;exists cv ?_;exists cz l ?_;exists cv ?_;ac_nf;exact⟨p1,rfl,s1,t1⟩
  rintro S' H2 ⟨p2,rfl,m,e2⟩;have r:=m _ _ o;exists⟨λS' g=>eD λ(d:Addr)=>eS (S'=[↥C,↥G,↥R,↥d,none,none,none]) (cj H g/\g d=some (.lst (((Fn.again k j).js.map λj=>I.getD j ⟨#[]⟩).map V.str))),?_,?_⟩
  rotate_left
  .exists cz r ?_;exists cY ?_;exists cz r ?_;exists⟨ua,?_⟩;sleep 3;ac_nf;exact⟨p3,rfl,m.trans s3,t3⟩
  rintro S' H3 ⟨d,rfl,D,O⟩;have W:∀Z u1 u2,(Fn.again k j)≠.rise Z u1 u2:=λ_ _ _ z=>by cases z
  clear X;generalize(Fn.again k j)=f at O W J q
 all_goals
  let⟨j8,a8⟩:=J.js;exists⟨va _,?_⟩;walk_at"f pf hpf H4 s4 t4";have a3:=D.trans s4;have mf:∀{c u},H c=some u->c≠pf:=λh=>je (D _ _ h) hpf
  have a9:d≠pf:=je O hpf;have aa:=aM.1;exists⟨d,rfl,⟨_,cm.of (s4 _ _ O)⟩,?_⟩;refine J2 (xs:=(f.js.map λj=>I.getD j ⟨#[]⟩).map V.str) (λt σ g=>iX λ(o5 Y:N3) (U:L8)=>lJ (σ=[↥C,↥G,↥R,↥d,↥pf,o5,Y]) (∀c u,c≠pf->H4 c=some u->g c=some u) (g pf=some (.lst (U.map V.str))) U.Nodup (⇑U<=8*t) (∀s,s∈U↔∃j∈f.js.take t,s∈Ms.getD j [])) ⟨_,_,[],rfl,λc u _ h=>h,t4,.nil,vb _,λs=>⟨(λh=>nomatch h),λ⟨j,hj,_⟩=>nomatch hj⟩⟩ ?_ ?_ ?_
  .rintro t σ g _ ⟨o5,Y,U,rfl,sm,_⟩;exact cm.of (sm _ _ a9 (s4 _ _ O))
  .rintro t v σ H5 hv ⟨o5,Y,U,rfl,sm,e5,a2,kl,S⟩;rw[vv,vv]at hv;let⟨x,hx,rfl⟩:=vg.mp hv;let⟨j,hj,rfl⟩:=vg.mp hx;have tl:=(vx.mp hj).1;have jl:=a8 j (vm hj);let⟨l1,l2,l3⟩:=tx nd jl;have a4:Ms[j]?=some (Ms.getD j []):=by rw[vy,vz ⋯];rfl
   have ab:=k4 _ (vm a4);obtain⟨ma,a5⟩:∃ma,a7[j]?=some ma:=⟨_,vz ⋯⟩
   have a0:=aM.2 j ma _ a5 a4;have k5:∀{c u},H c=some u->H5 c=some u:=λh=>sm _ _ (mf h) (a3 _ _ h)
   exists⟨.inl ⟨rfl,_,cm.of (k5 en)⟩,?_⟩;exists⟨G,_,.str _,.str _,j,rfl,rfl,cm.of (k5 en),rfl,lP _,l1,l2,l3,?_⟩;exists cE (cm.of (k5 em)) (jS (show(a7.map V.ref)[j]?=↥ma by rw[vv,a5];rfl)) ?_;refine⟨ma,rfl,⟨_,cm.of (k5 a0)⟩,?_⟩;refine J2 (xs:=(Ms.getD j []).map V.str) (λu σ g=>gC λ(Y:N3) (B:L8)=>lJ (σ=[↥C,↥G,↥R,↥d,↥pf,some (.str (I.getD j ⟨#[]⟩)),Y]) (∀c u,c≠pf->H4 c=some u->g c=some u) (g pf=some (.lst (B.map V.str))) B.Nodup (⇑B<=8*t+u) (∀s,s∈B↔s∈U\/s∈(Ms.getD j []).take u)) ⟨_,U,rfl,sm,e5,a2,kl,λs=>⟨.inl,λh=>h.elim id λh=>nomatch h⟩⟩ ?_ ?_ ?_
   .rintro u σ g _ ⟨Y,B,rfl,N,_⟩;exact cm.of (N _ _ (mf a0) (a3 _ _ a0))
   .rintro u v σ H6 hv ⟨Y,B,rfl,N,e6,F,a6,p⟩;rw[vv]at hv;let⟨y,hy,rfl⟩:=vg.mp hv;have ul:=(vx.mp hy).1;exists⟨pf,_,rfl,.inl (cm.of e6),rfl,lP _,?_⟩;rw[vd rfl,Af];refine⟨_,rfl,?_⟩;refine mx (λc=>?_) (λc=>?_)
    .exists⟨.inl ⟨rfl,_,cm.of e6⟩,?_⟩;exists⟨pf,_,_,rfl,rfl,e6,by rw[vt];lia,?_⟩;refine⟨_,B++[y],rfl,λc u hc h=>(jg hc).trans (N _ _ hc h),by rw[jA,vj];rfl,nodup_append.mpr ⟨F,pairwise_singleton _ _,λa o b hb e=>c (by rw[<-vo.mp hb,<-e];exact o)⟩,by rw[vn,vS];lia,λs=>?_⟩;rw[vh,p,vo,take_snoc hy,vh,vo,or_assoc]
    .exists⟨_,B,rfl,N,e6,F,⋯,λs=>?_⟩;rw[p,take_snoc hy,vh,vo];refine⟨λh=>h.elim .inl λh=>.inr (.inl h),?_⟩;rintro(h | h | rfl)
     .exact .inl h
     .exact .inr h
     .exact(p _).mp c
   .rintro σ H6 ⟨Y,B,rfl,N,e6,F,a6,p⟩;rw[vt]at a6 p;rw[v8]at p;exists⟨_,_,B,rfl,N,e6,F,⋯,λs=>?_⟩;rw[p,S,take_snoc hj];constructor
    .rintro(⟨j',a1,h⟩ | h)
     .exact⟨j',mem_append_left _ a1,h⟩
     .exact⟨j,mem_append_right _ vq,h⟩
    .rintro⟨j',a1,h⟩;rcases vh.mp a1 with z | z
     .exact .inl ⟨j',z,h⟩
     .rw[vo.mp z]at h;exact .inr h
  .rintro σ H5 ⟨o5,Y,U,rfl,sm,e5,a2,kl,S⟩;rw[show((f.js.map λj=>I.getD j ⟨#[]⟩).map V.str).length=⇑f.js by rw[vt,vt]]at kl S;rw[v8]at S;ac_nf;exact q pf U H5 (λc u h=>sm _ _ (mf h) (a3 _ _ h)) (none_of D hpf) e5 ⟨a2,λs=>(S s).trans ⟨.inl,λh=>h.elim id λ⟨h',n',e⟩=>ub e (W _ _ _)⟩⟩ ⋯
def Fc(T:Txt K mg t):1<*t.zC t.zH ["_law_names","_law_known","_law_most"] (gH):=by
 specialize T.Ye.F.ok Q5;let⟨X,d,f,S,B,rfl,N,M,nd,ng,n1,a0,gb,q⟩:=h;refine⟨_,(jb (cM 3 Q5.nd (jO jc))
  (jb (cM 4 Q5.nd jd)
  (jb (Jd PassesOwn.never rfl (Mx (by rfl) T.FD (ja (pv 0) jc)) (cW 5 Q5.nd)
   (jf (jP (PW.pt (Q3 (jt Ya (jE jY (by rfl) T.JZ Jp (ja (pv 3) jc)) jd (cg _)) (Qv (jt wU (jr jR (pv 4) (Qu (qp hr) (pv 1) (pv 5))) (pv 2) (cg _)))))
    (jb (jV (qa q5 q7 iA jT (pv 3) (ja (pv 5) jc)))
    (jf (cM 4 Q5.nd (jr jR (pv 4) (Qu (qp hr) (pv 1) (pv 5))))))
    jw)))
  (jf (jx (Jn JU (by rfl) T.ZL zG (ja (pv 3) jc))))))),?_⟩
 rotate_right 303
 have p:∀(h:Hp) j,h d=some (.dK (lH f S))->j<⇑f->dA h d (.str (f.getD j ⟨#[]⟩)) (some (.int (S∘j))):=λh j eh hj=>by
  have g:=dA.k (k:=Sum.inr (f.getD j ⟨#[]⟩)) eh;rw[Wk nd ng hj]at g;exact g
 exists⟨va _,?_⟩;walk_at"f ps hps H1 s1 t1";have l:∀{c u},H c=some u->c≠ps:=λh=>je h hps
 exists⟨X,_,rfl,cm.of (s1 _ _ N),?_⟩;refine IM (xs:=f.map V.str) (λt J m=>iX λ(G:N3) (e:L6) (a:Int)=>lJ (J=[↥X,↥d,~~~B,↥ps,~~~a,G]) (∀c u,c≠ps->H1 c=some u->m c=some u) (m ps=some (.lst ((e.map λj=>f.getD j ⟨#[]⟩).map V.str))) (⇑e<=5) (∀j∈e,j<⇑f) ((t=0->e=[]/\a=0)/\(0<t->e≠[]))) ⟨_,[],0,rfl,λc u _ h=>h,t1,va _,(λj h=>nomatch h),λ_=>⟨rfl,rfl⟩,λh=>ub h ⋯⟩ ?_ ?_ ?_
 .rintro t J m _ ⟨G,e,a,rfl,n,_⟩;exact cm.of (n _ _ (l N) (s1 _ _ N))
 .rintro t v J m hi D ⟨G,e,a,rfl,n,o,F,r,Y,I⟩;rw[vt]at hi D;rw[vv]at D;let⟨x,W,rfl⟩:=vg.mp D;have ej:x=f.getD (⇑f-1-t) ⟨#[]⟩:=by rw[vy,W];rfl
  subst ej;have y:⇑f-1-t<⇑f:=⋯
  clear W D;generalize ⇑f-1-t=j at y|-;have k':∀{c u},H c=some u->m c=some u:=λh=>n _ _ (l h) (s1 _ _ h)
  have g:=gb j y;exists⟨_,_,rfl,.inl ⟨_,cm.of o,rfl⟩,?_⟩;rw[vt,vt];exists cH (λc=>?_) (λc=>?_)
  .exists⟨d,_,rfl,p m j (k' M) y,?_⟩;exists cH (λR=>?_) (λR=>?_)
   .exists⟨.inl ⟨rfl,_,cm.of o⟩,?_⟩;exists⟨ps,_,_,rfl,rfl,o,by rw[vt,vt];lia,?_⟩;generalize L:upd m ps _=H2;have Z:H2 ps=some (.lst (((e++[j]).map λj=>f.getD j ⟨#[]⟩).map V.str)):=by
     rw[vj,vj];exact Qn L
    have C:∀c u,c≠ps->H1 c=some u->H2 c=some u:=λc u U h=>L▸(jg U).trans (n c u U h)
    clear L;exists⟨d,_,rfl,p H2 j (C _ _ (l M) (s1 _ _ M)) y,?_⟩;exists⟨_,e++[j],_,rfl,C,Z,by rw[vn];show _+1<=5;lia,λj' O=>?_,λh=>ub h ⋯,λ_ h=>by simp at h⟩;rcases vh.mp O with z | z
    .exact r j' z
    .rw[vo.mp z];exact y
   .exists⟨_,e,a,rfl,n,o,F,r,λh=>ub h ⋯,λ_ h=>?_⟩;rcases Nat.eq_zero_or_pos t with z | z
    .let⟨_,rfl⟩:=Y z;exact R ⋯
    .exact I z h
  .exists⟨_,e,a,rfl,n,o,F,r,λh=>ub h ⋯,λ_ h=>?_⟩;rw[h]at c;exact c (by show((0:Nat):Int)<5;lia)
 .rintro J m ⟨G,e,a,rfl,n,o,F,r,Y,I⟩;rw[vt]at I;exists⟨ps,_,rfl,.inl ⟨cm.of o,?_⟩⟩;walk_at"f b hb H3 s3 t3";exact q b e H3 (λc u h=>s3 _ _ (n _ _ (l h) (s1 _ _ h))) t3 (I ⋯) F r
def Fe(T:Txt K mg t)(j:1<*t.JM t.JN ["_law_cell","_law_k"] (kc)):2<*t.zE t.zJ ["_law_pool","_law_many"] (fT):=by
 specialize T.jQ.F.ok KC;let⟨p,x,y,m,rfl,b,z,n,B,C,q⟩:=h;refine⟨_,(jb (jP (jt kq (jo jz (pv 0) jd) jd (cg _))
   (jb (cM 2 KC.nd (jr j3 (jo jz (pv 0) jd) (pv 1)))
   (jb (yP (jr Jj (jo jz (pv 0) jd) (pv 1)) (kP (pv 0) jd set_list))
   (jf (jx (pv 2)))))
   jw)
  (jb (yP (jr j3 (jr Q0 (jr jR (jo jz (pv 0) jd) (pv 1)) jd) (jr jR (jr zN jd jd) jd)) (kP (pv 0) jd set_list))
  (jb (yP (jq T.Js j hr (ja (jo jz (pv 0) jd) (ja (pv 1) jc))) (kP (pv 0) jd set_list))
  (jf (jx (jr j3 (jr Jj (jo jz (pv 0) jd) jd) (pv 1))))))),?_⟩
 rotate_right 201
 exists cE (cm.of b) rfl ?_;exists cH (λc=>?_) (λc=>?_)
 .have e:fU x y m=(x%m,x/m,y):=vd ⋯;rw[e]at q;exists cE (cm.of b) rfl ?_;exists cE (cm.of b) rfl ?_;exists⟨p,_,_,0,rfl,rfl,b,rfl,?_⟩;ac_nf;exact q _ (λc u d h=>(jg d).trans h) jA
 .have e:fU x y m=(dP ((y+m)*314159265358979323846264338327%(10^30+57)) m/1000%m,x,dP ((y+m)*314159265358979323846264338327%(10^30+57)) m):=vc ⋯;rw[e]at q;exists cE (cm.of b) rfl ?_;exists⟨p,_,_,1,rfl,rfl,b,rfl,?_⟩;have o:=ve ((y+m)*314159265358979323846264338327) (show(10^30+57:Int)≠0 by decide);have r:=vf ((y+m)*314159265358979323846264338327) (show(0:Int)<10^30+57 by decide);generalize(y+m)*314159265358979323846264338327%(10^30+57)=v at o r q|-;generalize a:upd H p _=H1;have f:H1 p=some (.lst [.int x,.int v]):=Qn a;have k:∀c u,c≠p->H c=some u->H1 c=some u:=λc u d h=>a▸(jg d).trans h
  clear a;exists cE (cm.of f) rfl ?_;exists⟨v,m,rfl,⋯,n,?_⟩;exists⟨p,_,_,1,rfl,rfl,f,rfl,?_⟩;generalize a:upd H1 p _=H2;have g:H2 p=some (.lst [.int x,.int (dP v m)]):=Qn a;have l:∀c u,c≠p->H c=some u->H2 c=some u:=λc u d h=>a▸(jg d).trans (k c u d h)
  clear a;exists cE (cm.of g) rfl ?_;ac_nf;exact q _ l g
def W9(T:Txt K mg t)(jJ:2<*t.zE t.zJ ["_law_pool","_law_many"] (fT)):3<*t.ZY t.Z0 ["_law_pool","_law_kind","_law_names","_law_movers","_law_bounds"] (gz):=by
 specialize T.km.F.ok Jm;let⟨p,nl,ml,bd,x,y,kd,H0,am,L,v,G,b0,b1,b2,b3,b4,rfl,ep,y0,y1,M,N,n1,Bd,q⟩:=h;refine⟨_,(jb (jP (jt Jb (pv 1) jd (cg _))
   (jb (cM 5 Jm.nd (jr jR jd (jq T.jQ jJ hr (ja (pv 0) (ja (jo jz (pv 4) jd) jc)))))
   (jf (jx (jH (ja jI (ja (pv 5) (ja (jo jz (pv 2) (jq T.jQ jJ hr (ja (pv 0) (ja (jE jY (by rfl) T.JZ Jp (ja (pv 2) jc)) jc)))) jc)))))))
   jw)
  (jb (jP (jt Jb (pv 1) jd (cg _))
   (jb (cM 6 Jm.nd (jr jR jd (jq T.jQ jJ hr (ja (pv 0) (ja jd jc)))))
   (jf (jx (jH (ja jI (ja (Jn JU (by rfl) T.ZL zG (ja (JO (ow:=["_law_j"]) (ci:=[2,0]) rfl (cq.of (cf Qr) ["_law_pool","_law_kind","_law_names","_law_movers","_law_bounds","_law_times","_law_many","_law_some","_law_used","_law_j","_law_at","_law_twice"] rfl rfl ∅) (Qs nofun) (JK (by rfl) T.qJ (ja (pv 6) jc)) (λ_ _ _ _ _=>⟨(cW 0 (j6 ["_law_pool","_law_kind","_law_names","_law_movers","_law_bounds","_law_times","_law_many","_law_some","_law_used","_law_j","_law_at","_law_twice"] rfl ∅)),qS,(jo (Kn (K:=K) rfl) (pv 1) (jq T.jQ jJ hr (ja (pv 2) (ja (jE (Gx (K:=K) rfl) (by rfl) T.JZ Jp (ja (pv 1) jc)) jc))))⟩)) jc)) jc))))))
   jw)
  (jb (cM 7 Jm.nd (jO jc))
  (jb (jp (i:=8) Jm.nd rfl (.inr rfl) (jO jc))
  (jb (Jd PassesOwn.never rfl (JK (by rfl) T.qJ (ja (jr jR jd (jq T.jQ jJ hr (ja (pv 0) (ja jd jc)))) jc)) (cW 9 Jm.nd)
   (jb (cM 10 Jm.nd (jq T.jQ jJ hr (ja (pv 0) (ja (jE jY (by rfl) T.JZ Jp (ja (pv 2) jc)) jc))))
   (jb (Ap (i:=11) (ow:=["_law_one"]) (ci:=[8]) rfl (cq.of (cf Qr) ["_law_pool","_law_kind","_law_names","_law_movers","_law_bounds","_law_times","_law_many","_law_some","_law_used","_law_j","_law_at","_law_twice"] rfl rfl ∅) (Qs nofun) Jm.nd rfl (.inl rfl) (Ja (jo jz (pv 3) (pv 10))) (λ_ _ _ _ _=>⟨(cW 0 (j6 ["_law_pool","_law_kind","_law_names","_law_movers","_law_bounds","_law_times","_law_many","_law_some","_law_used","_law_j","_law_at","_law_twice"] rfl ∅)),(AG (jt (kN (K:=K) rfl) (pv 0) (pv 1) (by with_unfolding_all rfl))),(pv 0)⟩))
   (jf (jP (PW.pt (Q3 (jt (YG hr.units) (jo jz (pv 3) (pv 10)) (jO jc) (cg _)) (Qv (jt (A1 hr.units) (pv 11) (jO jc) (cg _)))))
    (jb (jV (qa q5 q7 iA jT (pv 7) (ja (jo jz (pv 2) (pv 10)) jc)))
    (jf (jp (i:=8) Jm.nd rfl (.inr rfl) (jr wz (pv 8) (jo jz (pv 3) (pv 10))))))
    jw)))))
  (jb (jP (jt Ya (jE jY (by rfl) T.JZ Jp (ja (pv 7) jc)) jd (cg _))
   (jf (jx (jH (ja jI (ja (jr jR jd (jq T.jQ jJ hr (ja (pv 0) (ja (jo jz (pv 4) jd) jc)))) jc)))))
   jw)
  (jf (jx (jH (ja jI (ja (Jn JU (by rfl) T.ZL zG (ja (pv 7) jc)) jc))))))))))),?_⟩
 rotate_right 507
 have aA:=N.tF;let⟨eb,ae,aq,ar,as,au,av,a9,aw,ax,ay⟩:=Bd;exists cH (λc=>?_) (λc=>?_)
 .exists cE (cm.of (M _ _ eb).2) rfl ?_;ac_nf;have r:=Jv (x:=x) (y:=y) a9;refine⟨p,x,y,_,rfl,ep,a9,⋯,y0,y1,λH1 x1 e1=>?_⟩;have o:=JR (x:=x) (m:=b3) y0 y1;have o1:=M.ex x1;exists⟨_,_,rfl,.inl ⟨_,cm.of (o1 _ _ N.en).2,rfl⟩,?_⟩;rw[vt];exists⟨p,_,_,_,rfl,e1,⋯,⋯,o.1,o.2,λH2 x2 e2=>?_⟩;have r2:=Jv (x:=(fU x y b3).2.1) (y:=(fU x y b3).2.2) (m:=(⇑v:Int)) ⋯;have o2:=o1.ex x2;generalize fU (fU x y b3).2.1 (fU x y b3).2.2 (⇑v:Int)=T2 at r2 e2|-;obtain⟨j,ej⟩:∃j:Nat,T2.1=(j:Int):=⟨T2.1.toNat,⋯⟩
  rw[ej]at r2|-;have F:j<⇑v:=⋯
  refine cE (cm.of (o2 _ _ N.en).2) (ZJ F) ?_;exists⟨uB,?_⟩;walk_at"f b6 hb6 H6 s6 t6";exact q b6 (.again (1+(fU x y b3).1) j) H6 (x1.trans (x2.trans (.of s6))) t6 ⟨⋯,⋯,F⟩
 exists cH (λc5=>?_) (λc5=>?_)
 .ac_nf;have r:=Jv (x:=x) (y:=y) (m:=5) ⋯;have o:=JR (x:=x) (m:=5) y0 y1;refine⟨p,x,y,_,rfl,ep,⋯,⋯,y0,y1,λH1 x1 e1=>?_⟩;generalize fU x y 5=T at r o e1|-;have o1:=M.ex x1;exists⟨_,rfl,⋯,⋯,?_⟩;refine WK (λi ys C=>iX λ(f:L6) (x y:Int)=>lJ (ys=f.map (λj=>V.str (v.getD j ⟨#[]⟩))) (⇑f=i) (∀j∈f,j<⇑v) (Ex p H1 C) (C p=some (.lst [.int x,.int y])) (0<=y/\y<10^30+57)) ⟨[],_,_,rfl,rfl,(λj h=>nomatch h),.refl _,e1,o⟩ ?_ ?_
  .rintro i ys C hi ⟨f,x2,y2,rfl,il,F,xx,ai,yy⟩;have o2:=o1.ex xx;refine JW (S':=[none,some _,some _]) rfl ?_;exists eB ?_;exists⟨_,_,rfl,.inl ⟨_,cm.of (o2 _ _ N.en).2,rfl⟩,?_⟩;rw[show(v.map V.str).length=⇑v from vt _];ac_nf;have r2:=Jv (x:=x2) (y:=y2) (m:=(⇑v:Int)) ⋯;have e:=JR (x:=x2) (m:=(⇑v:Int)) yy.1 yy.2;refine⟨p,x2,y2,_,rfl,ai,⋯,⋯,yy.1,yy.2,λH3 x3 e3=>?_⟩;generalize fU x2 y2 (⇑v:Int)=T2 at r2 e e3|-;obtain⟨j,ej⟩:∃j:Nat,T2.1=(j:Int):=⟨T2.1.toNat,⋯⟩
   rw[ej]at r2|-;have jn:j<⇑v:=⋯
   refine cE (cm.of (o2.ex x3 _ _ N.en).2) (ZJ jn) ?_;refine⟨by rw[vt];lia,f++[j],_,_,by rw[vj];rfl,by rw[vn,il];rfl,λZ g=>?_,xx.trans x3,e3,e⟩;rcases vh.mp g with z | z
   .exact F Z z
   .rw[vo.mp z];exact jn
  rintro ys H3 ⟨f,x3,y3,rfl,il,F,xx,az,yy⟩;refine⟨by rw[vt];lia,?_⟩;walk_at"f b hb H4 s4 t4";exists⟨b,_,rfl,.inl ⟨cm.of t4,?_⟩⟩;walk_at"f b5 hb5 H5 s5 t5";exists⟨uA,?_⟩;walk_at"f b6 hb6 H6 s6 t6";refine q b6 (.row f) H6 (x1.trans (xx.trans (.of (s4.trans (s5.trans s6))))) ⟨b5,t6,?_⟩ ⟨λz=>?_,⋯,F⟩
  .rw[s6 _ _ t5,uz];rfl
  .rw[z]at il;have:(0:Nat)=_:=il;lia
 exists⟨va _,?_⟩;walk_at"f ps hps H1 s1 t1";exists⟨va _,?_⟩;walk_at"f pu hpu H2 s2 t2";have a6:=s1.trans s2;have a2:ps≠p:=(je ep hps).symm;have ad:pu≠p:=(je (s1 _ _ ep) hpu).symm;have ac:∀{c u},H c=some u->c≠ps:=λh=>je h hps
 have ao:pu≠ps:=(je t1 hpu).symm;ac_nf;have r:=Jv (x:=x) (y:=y) (m:=3) ⋯;have o:=JR (x:=x) (m:=3) y0 y1;refine⟨p,x,y,_,rfl,a6 _ _ ep,⋯,⋯,y0,y1,λH3 x3 e3=>?_⟩;generalize fU x y 3=T at r o e3|-;have o3:Off p H0 H3:=λc u h=>⟨(M c u h).1,x3 _ _ (M c u h).1 (a6 _ _ (M c u h).2)⟩
 have af:=x3 _ _ a2 (s2 _ _ t1);have ag:=x3 _ _ ad t2;have aj:∀{c u},c≠p->H c=some u->H3 c=some u:=λn h=>x3 _ _ n (a6 _ _ h)
 exists⟨_,rfl,⋯,⋯,?_⟩;refine qG (λt σ C=>nD λ(o9 a4 a5:N3) (d:Addr) (f:L6) (D:L8) (x y:Int)=>pd (σ=[↥p,~~~kd,↥nl,↥ml,↥bd,none,none,↥ps,↥d,o9,a4,a5]) (d≠ps) (d≠p) (Ex p H C) (C ps=some (.lst ((f.map λj=>v.getD j ⟨#[]⟩).map V.str))) (C d=some (.lst (D.map V.str))) (C p=some (.lst [.int x,.int y])) (0<=y) (y<10^30+57) (⇑f<=t) (⇑D<=8*t) (∀j∈f,j<⇑v) (ji G f) (∀s,s∈D↔∃j∈f,s∈G.getD j [])) ⟨_,_,_,pu,[],[],_,_,rfl,ao,ad,λc u n h=>aj n h,af,ag,e3,o.1,o.2,vb _,vb _,(λj h=>nomatch h),⟨(λj h=>nomatch h),.nil⟩,λs=>⟨(λh=>nomatch h),λ⟨j,h,_⟩=>nomatch h⟩⟩ ?_ ?_
 .rintro t σ H4 ht ⟨o9,a4,a5,d,f,D,x4,y4,rfl,a1,a0,B,I,a3,e4,R,S,il,ul,F,ap,J⟩;have t4:t<4:=⋯
  have o4:=M.ex B;exists⟨_,_,rfl,.inl ⟨_,cm.of (o4 _ _ N.en).2,rfl⟩,?_⟩;rw[vt];ac_nf;have r2:=Jv (x:=x4) (y:=y4) (m:=(⇑v:Int)) ⋯;have e:=JR (x:=x4) (m:=(⇑v:Int)) R S;refine⟨p,x4,y4,_,rfl,e4,⋯,⋯,R,S,λH5 x5 e5=>?_⟩;generalize fU x4 y4 (⇑v:Int)=T2 at r2 e e5|-;obtain⟨j,ej⟩:∃j:Nat,T2.1=(j:Int):=⟨T2.1.toNat,⋯⟩
  rw[ej]at r2|-;have al:j<⇑v:=⋯
  have a7:=B.trans x5;have o5:=M.ex a7;have U:=x5 _ _ a2 I;have W:=x5 _ _ a0 a3;clear x5 B o4 I a3 e4 R S;let⟨ma,ak,X,an,mw⟩:=N.mv al;have aM:ft (am.map V.ref) ((j:Nat):Int)=↥ma:=jS (by rw[vv,ak];rfl);exists cE (cm.of (o5 _ _ N.em).2) (aM) ?_;refine⟨ma,rfl,⟨_,cm.of (o5 _ _ X).2⟩,?_⟩;refine JJ (xs:=(G.getD j []).map V.str) (λi ys C=>ys=(((G.getD j []).take i).filter λs=>decide (s∈D)).map V.str/\H5=C) ⟨rfl,rfl⟩ ?_ ?_ ?_
  .rintro i ys C _ ⟨rfl,rfl⟩;exact cm.of (o5 _ _ X).2
  .rintro i x ys C hx ⟨rfl,rfl⟩;rw[vv]at hx;let⟨k,aa,rfl⟩:=vg.mp hx;have ik:=(vx.mp aa).1;refine JW (S':=[none,some _]) rfl ?_;exists⟨d,_,rfl,.inl (cm.of W),rfl,lP _,?_⟩;rw[BO];ac_nf;rw[take_snoc aa,filter_append];have lf:⇑(((G.getD j []).take i).filter λs=>decide (s∈D))<=8:=vW (length_filter_le _ _) (by rw[vi];lia);refine cH (λc=>?_) (λc=>?_)
   .exists⟨by rw[vt];lia,?_,rfl⟩;rw[vj,ux,vd (vG c),filter_nil];rfl
   .refine⟨?_,rfl⟩;rw[ux,vc (by rw[vH c];exact vF),filter_nil,append_nil]
  rintro ys C ⟨rfl,rfl⟩;rw[show((G.getD j []).map V.str).length=⇑(G.getD j []) from vt _,v8];have lf:⇑((G.getD j []).filter λs=>decide (s∈D))<=8:=vW (length_filter_le _ _) an;have wf:∀x∈(G.getD j []).filter (λs=>decide (s∈D)),Ws.fG x=true:=λx hx=>mw x (vP.mp hx).1
  refine⟨by rw[vt];lia,?_⟩;walk_at"f p5 hp5 H6 s6 t6";have o6:=o5.ex (.of s6);exists cE (cm.of (o6 _ _ N.em).2) (aM) ?_;exists⟨va _,?_⟩;sleep 7;have O:=s6.trans s7;refine⟨_,_,.lst (s7 _ _ (o6 _ _ X).2) (zX _),so t7,mZ mw,mY,?_⟩;rw[mU];exists mx (λd1=>?_) (λd1=>?_)
  .exists⟨va _,?_⟩;sleep 8;have l:=O.trans s8;have a8:=a7.trans (.of l);refine⟨_,_,.lst (s8 _ _ (s7 _ _ t6)) (zX _),so t8,mZ wf,mY,?_⟩;rw[mU];exists cH (λd2=>?_) (λd2=>?_)
   .exists⟨.inl ⟨rfl,_,cm.of (l _ _ U)⟩,?_⟩;ac_nf;have o8:=M.ex a8;refine cE (cm.of (o8 _ _ N.en).2) (ZJ al) ?_;exists⟨ps,_,_,rfl,rfl,l _ _ U,by rw[vt,vt];lia,?_⟩;generalize eG:upd H8 ps _=H9;have e9:H9 ps=some (.lst (((f++[j]).map λj=>v.getD j ⟨#[]⟩).map V.str)):=by
     rw[vj,vj];exact Qn eG
    have k9:∀c u,c≠ps->H8 c=some u->H9 c=some u:=λc u hc h=>eG▸(jg hc).trans h
    clear eG;have n9:∀{c u},H0 c=some u->H9 c=some u:=λ{c u} h=>k9 _ _ (ac (M _ _ h).2) (o8 _ _ h).2
    exists cE (cm.of (n9 N.em)) (aM) ?_;refine⟨d,ma,_,_,rfl,rfl,k9 _ _ a1 (l _ _ W),n9 X,by rw[vt,vt];lia,?_⟩;sleep 10;ac_nf;have ah:=s10 _ _ (k9 _ _ a2.symm (l _ _ e5));refine⟨_,_,_,p10,f++[j],D++G.getD j [],_,_,rfl,(je e9 hp10).symm,(je (k9 _ _ a2.symm (l _ _ e5)) hp10).symm,λc u n h=>s10 _ _ (k9 _ _ (ac h) (a8 _ _ n h)),s10 _ _ e9,by rw[vj];exact t10,ah,e.1,e.2,by rw[vn];show _+1<=_;lia,by rw[vn];lia,λZ g=>?_,⟨λZ g=>?_,List.pairwise_append.mpr ⟨ap.2,pairwise_singleton ..,λa ha b hb s Y ab=>?_⟩⟩,λs=>?_⟩
    .rcases vh.mp g with z | z
     .exact F Z z
     .rw[vo.mp z];exact al
    .rcases vh.mp g with z | z
     .exact ap.1 Z z
     .rw[vo.mp z];exact d1
    .rw[vo.mp hb]at ab;have:s∈(G.getD j []).filter λs=>decide (s∈D):=vP.mpr ⟨ab,vG ((J s).mpr ⟨a,ha,Y⟩)⟩
     rw[d2]at this;cases this
    .rw[vh,J];constructor
     .rintro(⟨Z,g,Y⟩ | Y)
      .exact⟨Z,mem_append_left _ g,Y⟩
      .exact⟨_,mem_append_right _ vq,Y⟩
     .rintro⟨Z,g,Y⟩;rcases vh.mp g with z | z
      .exact .inl ⟨Z,z,Y⟩
      .rw[vo.mp z]at Y;exact .inr Y
   .ac_nf;exact⟨_,_,_,d,f,D,_,_,rfl,a1,a0,a8,l _ _ U,l _ _ W,l _ _ e5,e.1,e.2,⋯,⋯,F,ap,J⟩
  .ac_nf;exact⟨_,_,_,d,f,D,_,_,rfl,a1,a0,a7.trans (.of O),O _ _ U,O _ _ W,O _ _ e5,e.1,e.2,⋯,⋯,F,ap,J⟩
 rintro σ H4 ⟨o9,a4,a5,d,f,D,x4,y4,rfl,a1,a0,B,I,a3,e4,R,S,il,ul,F,ap,J⟩;exists⟨_,_,rfl,.inl ⟨_,cm.of I,rfl⟩,?_⟩;rw[vt,vt];exists cH (λc2=>?_) (λc2=>?_)
 .ac_nf;have o4:=M.ex B;refine cE (cm.of (o4 _ _ eb).2) rfl ?_;ac_nf;have r2:=Jv (x:=x4) (y:=y4) ae;refine⟨p,x4,y4,_,rfl,e4,⋯,⋯,R,S,λH5 x5 e5=>?_⟩;exists⟨uA,?_⟩;walk_at"f b6 hb6 H6 s6 t6";exact q b6 (.hold (1+(fU x4 y4 b0).1)) H6 (B.trans (x5.trans (.of s6))) t6 ⟨⋯,⋯⟩
 exists⟨ps,_,rfl,.inl ⟨cm.of I,?_⟩⟩;walk_at"f b5 hb5 H5 s5 t5";exists⟨uA,?_⟩;walk_at"f b6 hb6 H6 s6 t6";exact q b6 (.side f) H6 (B.trans (.of (s5.trans s6))) ⟨b5,t6,s6 _ _ t5⟩ ⟨⋯,⋯,F,ap.n N.il⟩
def Kw(T:Txt K mg t)(M:2<*t.zE t.zJ ["_law_pool","_law_many"] (fT))(ZW:3<*t.ZY t.Z0 ["_law_pool","_law_kind","_law_names","_law_movers","_law_bounds"] (gz)):4<*t.zh t.zk ["_law_pool","_law_names","_law_movers","_law_limbs","_law_bounds"] (iM):=by
 specialize T.ya.F.ok JQ;let⟨p,nl,ml,pl,bd,x,y,H0,aa,ac,F,X,Ms,b0,b1,b2,b3,b4,rfl,ep,y0,y1,of,N,R,Bd,q⟩:=h;refine⟨_,(jb (cM 5 JQ.nd (jq T.jQ M hr (ja (pv 0) (ja jd jc))))
  (jb (jP (PW.pt (Q3 (jt kq (pv 5) jd (cg _)) (Qv (jt (YG hr.units) (pv 1) (jO jc) (cg _)))))
   (jf (jx (jq T.km ZW hr (ja (pv 0) (ja (pv 5) (ja (pv 1) (ja (pv 2) (ja (pv 4) jc))))))))
   jw)
  (jb (cM 6 JQ.nd (jr jR jd (jq T.jQ M hr (ja (pv 0) (ja (jo jz (pv 4) (jq T.jQ M hr (ja (pv 0) (ja jd jc)))) jc)))))
  (jb (jP (jt Ya (pv 5) jd (cg _))
   (jb (cM 7 JQ.nd (jo jv (jo jz (pv 3) (jq T.jQ M hr (ja (pv 0) (ja (jE jY (by rfl) T.JZ Jp (ja (pv 3) jc)) jc)))) jd))
   (jf (jx (jH (ja jI (ja (pv 7) (ja (jq T.jQ M hr (ja (pv 0) (ja (jo jz (pv 4) jd) jc))) (ja (pv 6) jc))))))))
   jw)
  (jb (jP (jt Jb (pv 5) jd (cg _))
   (jb (cM 8 JQ.nd (jr wz (jO (ja jI (ja jI (ja jI jc)))) (qR De (pv 1) Q1 (Qe jd))))
   (jf (jx (jH (ja jI (ja (jo jz (pv 8) (jq T.jQ M hr (ja (pv 0) (ja (jE jY (by rfl) T.JZ Jp (ja (pv 8) jc)) jc)))) (ja (pv 6) jc)))))))
   jw)
  (jf (jx (jH (ja jI (ja (pv 6) jc)))))))))),?_⟩
 rotate_right 504
 have ad:=N.tF;let⟨eb,l,n,o,u,S,a0,a1,a2,a3,a4⟩:=Bd;ac_nf;have r:=Jv (x:=x) (y:=y) (m:=8) ⋯;have b:=JR (x:=x) (m:=8) y0 y1;refine⟨p,x,y,_,rfl,ep,⋯,⋯,y0,y1,λH1 x1 e1=>?_⟩;generalize fU x y 8=T at r b e1|-;have o1:=of.ex x1;exists cH (λc=>?_) (λc=>?_)
 .exists⟨va _,?_⟩;walk_at"f e3 he3 H3 s3 t3";have o3:=o1.ex (.of s3);refine⟨_,_,.lst (o3 _ _ N.en).2 (zX _),so t3,mZ N.w,mY,?_⟩;rw[mU];exists mx (λd=>?_) (λd=>?_)
  .ac_nf;exact⟨p,nl,ml,bd,_,_,_,H0,aa,_,X,Ms,b0,b1,b2,b3,b4,rfl,s3 _ _ e1,b.1,b.2,o3,N,length_pos_iff.mpr d,⟨eb,l,n,o,u,S,a0,a1,a2,a3,a4⟩,λa f H' x' hf ab=>q a f H' (x1.trans ((Ex.of s3).trans x')) hf ab⟩
  .ac_nf;have G:=Jv (x:=T.2.1) (y:=T.2.2) (m:=2) ⋯;have e:=JR (x:=T.2.1) (m:=2) b.1 b.2;refine⟨p,_,_,_,rfl,s3 _ _ e1,⋯,⋯,b.1,b.2,λH4 Z U=>?_⟩;generalize fU T.2.1 T.2.2 2=T2 at G e U|-;have o4:=o3.ex Z;let⟨L,C,B,a5⟩:=rq (b2:=b2) (b3:=b3) (b4:=b4) ⟨l,n⟩ ⟨o,u⟩ G.1 G.2;refine cE (cm.of (o4 _ _ eb).2) (C) ?_;ac_nf;have r3:=Jv (x:=T2.2.1) (y:=T2.2.2) (m:=L) B;refine⟨p,_,_,_,rfl,U,⋯,⋯,e.1,e.2,λH5 x5 W=>?_⟩;exists cH (λc3=>?_) (λc3=>?_)
   .exact ub c3 ⋯
   exists cH (λc4=>?_) (λc4=>?_)
   .exact ub c4 ⋯
   exists⟨uA,?_⟩;walk_at"f b6 hb6 H6 s6 t6";exact q b6 (.hold (1+(fU T2.2.1 T2.2.2 L).1)) H6 (x1.trans ((Ex.of s3).trans (Z.trans (x5.trans (.of s6))))) t6 ⟨⋯,⋯⟩
 refine gq ?_;ac_nf;have G:=Jv (x:=T.2.1) (y:=T.2.2) (m:=2) ⋯;have e:=JR (x:=T.2.1) (m:=2) b.1 b.2;refine⟨p,_,_,_,rfl,e1,⋯,⋯,b.1,b.2,λH4 Z U=>?_⟩;generalize fU T.2.1 T.2.2 2=T2 at G e U|-;have o4:=o1.ex Z;let⟨L,C,B,a5⟩:=rq (b2:=b2) (b3:=b3) (b4:=b4) ⟨l,n⟩ ⟨o,u⟩ G.1 G.2;refine cE (cm.of (o4 _ _ eb).2) (C) ?_;ac_nf;have r3:=Jv (x:=T2.2.1) (y:=T2.2.2) (m:=L) B;have g:=JR (x:=T2.2.1) (m:=L) e.1 e.2;refine⟨p,_,_,_,rfl,U,⋯,⋯,e.1,e.2,λH5 x5 W=>?_⟩;generalize fU T2.2.1 T2.2.2 L=T3 at r3 g W|-;have o5:=o4.ex x5;have I:=x1.trans (Z.trans x5);have l1:=R.l1;have a9:=R.la.1;have l8:=N.l8;rw[show(cb F).length=⇑F from vt _]at l8;exists cH (λc3=>?_) (λc3=>?_)
 .exists⟨_,_,rfl,.inl ⟨_,cm.of (o5 _ _ R.el).2,rfl⟩,?_⟩;rw[vt,a9];ac_nf;have O:=Jv (x:=T3.2.1) (y:=T3.2.2) (m:=(⇑F:Int)) ⋯;have J:=JR (x:=T3.2.1) (m:=(⇑F:Int)) g.1 g.2;refine⟨p,_,_,_,rfl,W,⋯,⋯,g.1,g.2,λH6 x6 e6=>?_⟩;generalize fU T3.2.1 T3.2.2 (⇑F:Int)=T4 at O J e6|-;obtain⟨j,ej⟩:∃j:Nat,T4.1=(j:Int):=⟨T4.1.toNat,⋯⟩
  rw[ej]at O|-;have jl:j<⇑F:=⋯
  have o6:=o5.ex x6;let⟨lk,a7,a6⟩:=R.la.get (vz jl);refine cE (cm.of (o6 _ _ R.el).2) (jS (j:=j) (by rw[vv,a7];rfl)) ?_;exists ez (cJ.of (o6 _ _ a6).2) rfl ?_;exists cE (cm.of (o6 _ _ eb).2) rfl ?_;ac_nf;have r5:=Jv (x:=T4.2.1) (y:=T4.2.2) (m:=b2) S;refine⟨p,_,_,_,rfl,e6,⋯,⋯,J.1,J.2,λH7 x7 e7=>?_⟩;generalize fU T4.2.1 T4.2.2 b2=T5 at r5 e7|-;exists⟨uC,?_⟩;walk_at"f b6 hb6 H8 s8 t8";refine q b6 (.rise F[j].1 T5.1 (1+T3.1)) H8 (I.trans (x6.trans (x7.trans (.of s8)))) t8 ⟨⟨j,?_⟩,r5.1,⋯,⋯,⋯⟩;unfold cb;rw[vv,vz jl];rfl
 exists cH (λc4=>?_) (λc4=>?_)
 .exists⟨uB,?_⟩;walk_at"f b3' hb3' H6 s6 t6";exists⟨nl,_,rfl,cm.of (s6 _ _ (o5 _ _ N.en).2),?_⟩;walk_at"f b4' hb4' H7 s7 t7";have cl:=ZM (X.map V.str) none (some 1);rw[vt]at cl;refine⟨b3',b4',_,_,rfl,rfl,s7 _ _ t6,t7,by show 3+_<=sizeLine;lia,?_⟩;walk_at"f b5' hb5' H8 s8 t8";have Y:=s6.trans (s7.trans s8);have n5:b5'≠p:=(je (s7 _ _ (s6 _ _ W)) hb5').symm;exists⟨_,_,rfl,.inl ⟨_,cm.of t8,rfl⟩,?_⟩;ac_nf;have O:=Jv (x:=T3.2.1) (y:=T3.2.2) (m:=((([V.str "ding",V.str "dong",V.str "din"]++fF (X.map V.str) none (some 1)).length:Nat):Int)) (by rw[vn];show 1<=(((3+_:Nat)):Int);lia);refine⟨p,_,_,_,rfl,Y _ _ W,by rw[vn];show 1<=(((3+_:Nat)):Int);lia,by rw[vn];show(((3+_:Nat)):Int)<=_;lia,g.1,g.2,λH9 x9 e9=>?_⟩;generalize fU T3.2.1 T3.2.2 ((([V.str "ding",V.str "dong",V.str "din"]++fF (X.map V.str) none (some 1)).length:Nat):Int)=T4 at O e9|-;have a8:∀v∈[V.str "ding",V.str "dong",V.str "din"]++fF (X.map V.str) none (some 1),∃w:Str,v = .str w/\Ws.fG w=true:=λv hv=>by
   rcases vh.mp hv with z | z
   .rcases mem_cons.mp z with rfl | z
    .exact⟨_,rfl,by trivial⟩
    .rcases mem_cons.mp z with rfl | z
     .exact⟨_,rfl,by trivial⟩
     .rw[vo.mp z];exact⟨_,rfl,by trivial⟩
   .let⟨w',D,rfl⟩:=vK.mp (CY z);exact⟨w',rfl,N.w w' D⟩
  let⟨w',D,ww⟩:=BS (k:=T4.1) a8 O.1 O.2;refine cE (cm.of (x9 _ _ n5 t8)) (D) ?_;exists⟨uB,?_⟩;walk_at"f b8 hb8 H10 s10 t10";exact q b8 (.ring w' (1+T3.1)) H10 (I.trans ((Ex.of Y).trans (x9.trans (.of s10)))) t10 ⟨⋯,⋯,ww⟩
 exists⟨uA,?_⟩;walk_at"f b6 hb6 H6 s6 t6";exact q b6 (.hold (1+T3.1)) H6 (I.trans (.of s6)) t6 ⟨⋯,⋯⟩
def Kv(T:Txt K mg t)(jL:1<*t.JD t.JF ["_law_script","_law_k"] (Pr.dR K))(jM:1<*t.JM t.JN ["_law_cell","_law_k"] (kc))(qo:1<*t.zF t.zK ["_law_place","_law_k"] (gJ))(qm:1<*t.zD t.zI ["_law_form_here","_law_known"] (gI))(qX:1<*t.QT t.QW ["_law_form_here","_law_names","_law_movers"] (fY))(QG:1<*t.zC t.zH ["_law_names","_law_known","_law_most"] (gH))(jJ:2<*t.zE t.zJ ["_law_pool","_law_many"] (fT))(zd:4<*t.zh t.zk ["_law_pool","_law_names","_law_movers","_law_limbs","_law_bounds"] (iM)):5<*t.zg t.zj ["_law_script","_law_many","_law_bounds"] (fM K):=by
 specialize T.Z9.F.ok jF;let⟨a,bd,ns,B,b0,b1,b2,b3,b4,rfl,hS,au,m2,b6,Bd,q⟩:=h;refine⟨_,(jb (cM 3 jF.nd (jO (ja (jr Jj (jE WG (by rfl) T.A6 Ay (ja (jq T.Jh jL hr (ja (pv 0) (ja jd jc))) jc)) jd) (ja jd jc))))
  (jb (cM 4 jF.nd (jq T.jQ jJ hr (ja (pv 3) (ja jd jc))))
  (jb (cM 5 jF.nd (jO jc))
  (jb (Jd PassesOwn.never rfl (JK (by rfl) T.qJ (ja (jr jR jd (jq T.jQ jJ hr (ja (pv 3) (ja jd jc)))) jc)) (cW 6 jF.nd)
   (jf (jV (qa q5 q7 iA jT (pv 5) (ja (jH (ja (jq T.zA qo hr (ja (pv 4) (ja (pv 6) jc))) (ja (jq T.jQ jJ hr (ja (pv 3) (ja (jo jz (pv 2) jd) jc))) jc))) jc)))))
  (jb (cM 7 jF.nd (jq T.jQ jJ hr (ja (pv 3) (ja (jr jR (jr Q0 jd (pv 1)) jd) jc))))
  (jb (cM 8 jF.nd (jq T.jQ jJ hr (ja (pv 3) (ja jd jc))))
  (jb (cM 9 jF.nd (jO jc))
  (jb (cM 10 jF.nd (jO jc))
  (jb (cM 11 jF.nd yg)
  (jb (cM 12 jF.nd (jO jc))
  (jb (Jd PassesOwn.never rfl (JK (by rfl) T.qJ (ja (jr jR (pv 1) jd) jc)) (cW 6 jF.nd)
   (jb (cM 13 jF.nd (jE WG (by rfl) T.A6 Ay (ja (jq T.Jh jL hr (ja (pv 0) (ja (jr jR jd (pv 6)) jc))) jc)))
   (jb (cM 14 jF.nd (jO (ja (pv 13) (ja (jq T.Js jM hr (ja (pv 13) (ja (jr jR jd (pv 6)) jc))) jc))))
   (jb (Q2 (jt Ya (pv 13) (jr zN jd jd) (cg _))
    (jf (yP jd (kP (pv 14) jd set_list)))
    jw)
   (jb (cM 15 jF.nd (jq T.ya zd hr (ja (pv 14) (ja (pv 9) (ja (pv 10) (ja (pv 5) (ja (pv 2) jc)))))))
   (jb (Q2 (PW.pt (Q3 (jt Jb (pv 6) (pv 1) (cg _)) (Qv (jt Jb (pv 8) jd (cg _)))))
    (jf (cM 15 jF.nd (jH (ja jI (ja (jq T.Ye QG hr (ja (pv 9) (ja (pv 11) (ja (jo jz (pv 2) jd) jc)))) jc)))))
    jw)
   (jb (Q2 (jt kq (jq T.zx qm hr (ja (pv 15) (ja (pv 11) jc))) (jo jz (pv 2) jd) (cg _))
    (jf (cM 15 jF.nd (jH (ja jI (ja jd jc)))))
    jw)
   (jb (jV (qa q5 q7 iA jT (pv 10) (ja (jq T.yB qX hr (ja (pv 15) (ja (pv 9) (ja (pv 10) jc)))) jc)))
   (jb (cM 16 jF.nd (jq T.zA qo hr (ja (pv 4) (ja (jr jR jd (pv 6)) jc))))
   (jb (Q2 (jt Jb (pv 6) (pv 7) (cg _))
    (jf (cM 16 jF.nd (jo jv (jo jz (pv 5) (jr j3 (pv 6) (jE jY (by rfl) T.JZ Jp (ja (pv 5) jc)))) jd)))
    jw)
   (jb (jV (qa q5 q7 iA jT (pv 9) (ja (pv 16) jc)))
   (jb (jV (qa q5 q7 iA jT (pv 12) (ja (jH (ja (pv 16) (ja (pv 15) jc))) jc)))
   (jf (yQ (qp hr) (pv 11) (pv 16) (jq T.zx qm hr (ja (pv 15) (ja (pv 11) jc))) rfl))))))))))))))
  (jf (jx (jH (ja (jH (ja (pv 5) (ja (pv 12) jc))) (ja (Qu (qp hr) (pv 11) (jo jz (pv 9) (pv 1))) jc)))))))))))))))),?_⟩
 rotate_right 314
 let⟨eb,aD,aE,aF,aG,al,aH,aI,aJ,am,an⟩:=Bd;exists⟨a,ns,_,rfl,hS,au,⋯,?_⟩;refine⟨_,rfl,?_⟩;exists⟨uA,?_⟩;walk_at"f po hpo H1 s1 t1";generalize(if Pr.cell ns 0<0 then -Pr.cell ns 0 else Pr.cell ns 0)/2=x0 at t1;ac_nf;have r1:=Jv (x:=x0) (y:=7) (m:=3) ⋯;have y1:=JR (x:=x0) (y:=7) (m:=3) nofun nofun;refine⟨po,_,_,_,rfl,t1,⋯,⋯,⋯,⋯,λH2 x2 e2=>?_⟩;generalize fU x0 7 3=T1 at r1 y1 e2|-;obtain⟨p,e3⟩:∃p:Nat,T1.1=(p:Int):=⟨T1.1.toNat,⋯⟩
 have hp:p<3:=⋯
 have s2:cj H H2:=λc u h=>x2 _ _ (je h hpo) (s1 _ _ h)
 rw[e3];clear s1 x2;exists⟨va _,?_⟩;walk_at"f pl hpl H3 s3 t3";have a0:pl≠po:=(je e2 hpl).symm;ac_nf;have r2:=Jv (x:=T1.2.1) (y:=T1.2.2) (m:=4) ⋯;have y2:=JR (x:=T1.2.1) (m:=4) y1.1 y1.2;refine⟨po,_,_,_,rfl,s3 _ _ e2,⋯,⋯,y1.1,y1.2,λH4 x4 e4=>?_⟩;generalize fU T1.2.1 T1.2.2 4=T2 at r2 y2 e4|-;have s4:cj H H4:=λc u h=>x4 _ _ (je h hpo) (s3 _ _ (s2 _ _ h))
 have t4:=x4 _ _ a0 t3;have av:H pl=none:=none_of s2 hpl;clear s2 s3 x4 t3 hpl;exists⟨_,rfl,⋯,⋯,?_⟩;refine qG (λi σ H'=>ql λ(o6:N3) (D:L7) (o:L4) (x y:Int)=>sC (σ=[↥a,some (.int (B:Nat)),↥bd,↥po,some (.int (p:Nat)),↥pl,o6,none,none,none,none,none,none,none,none,none,none]) (cj H H') (H' pl=some (.lst (D.map V.ref))) (cn (eU H') D o) (cb o=nu p i) (⇑o=i) (∀q∈o,0<=q.2/\q.2<=10^18) (H' po=some (.lst [.int x,.int y])) (0<=y/\y<10^30+57)) ⟨_,[],[],_,_,rfl,s4,t4,.nil,rfl,rfl,(λq h=>nomatch h),e4,y2⟩ ?_ ?_
 .rintro i σ H' hi ⟨o6,D,o,x,y,rfl,F,el,la,nm,ll,lh,ep,y0,a2⟩;have i4:i<4:=⋯
  have ax:=la.1;exists⟨.inl ⟨rfl,_,cm.of el⟩,?_⟩;exists⟨p,i,by rw[ut];rfl,hp,⋯,?_⟩;exists cE (cm.of (F _ _ eb)) rfl ?_;ac_nf;have r3:=Jv (x:=x) (y:=y) (m:=b2) al;have y3:=JR (x:=x) (m:=b2) y0 a2;refine⟨po,_,_,_,rfl,ep,⋯,⋯,y0,a2,λH2 x2 e2=>?_⟩;generalize fU x y b2=T3 at r3 y3 e2|-;have kp:∀c xs,H' c=some (.tup xs)->H2 c=some (.tup xs):=λc xs h=>x2 _ _ (Jz h ep λz=>by cases z) h
  have ap:=x2 _ _ a0 el;exists⟨uA,?_⟩;sleep 3;exists⟨pl,_,_,rfl,rfl,s3 _ _ ap,by rw[vt];lia,?_⟩;have kt:∀c xs,H3 c=some (.tup xs)->upd H3 pl (.lst (D.map V.ref++[.ref p3])) c=some (.tup xs):=λc xs h=>(jg (Jz h (s3 _ _ ap) λz=>by cases z)).trans h
  refine⟨_,D++[p3],o++[(i2 p i,T3.1)],_,_,rfl,λc u h=>?_,by rw[jA,vj];rfl,(la.mono λc x h=>kt _ _ (s3 _ _ (kp _ _ h))).snoc (kt _ _ t3),?_,by rw[vn,ll];rfl,λq hq=>?_,(jg a0.symm).trans (s3 _ _ e2),y3⟩
  .exact(jg (je h av)).trans (s3 _ _ (x2 _ _ (je h hpo) (F _ _ h)))
  .rw[Cv,<-nm];unfold cb;rw[vj];rfl
  .rcases vh.mp hq with z | z
   .exact lh q z
   .rw[vo.mp z];exact⟨r3.1,by show T3.1<=10^18;lia⟩
 rintro S' H5 ⟨o6,D,o,x,y,rfl,aA,aq,ad,nm,ll,lh,a3,y0,a2⟩;clear s4 t4 e4 e2 H2 H3 H4;have m1:1<=⇑o:=⋯
 have m4:⇑o<=4:=⋯
 replace nm:cb o=nu p ⇑o:=by rw[nm,ll]
 let⟨ae,lW⟩:=Eh (m:=⇑o) hp ⋯;rw[<-nm]at ae lW;clear ll;have Ll:⇑(cb o)=⇑o:=vt _;have ax:=ad.1;ac_nf;have r3:=Jv (x:=x) (y:=y) (m:=2*(B:Int)+2) ⋯;have y3:=JR (x:=x) (m:=2*(B:Int)+2) y0 a2;refine⟨po,_,_,_,rfl,a3,⋯,⋯,y0,a2,λH6 x6 e6=>?_⟩;generalize fU x y (2*(B:Int)+2)=T3 at r3 y3 e6|-;have r4:=Jv (x:=T3.2.1) (y:=T3.2.2) (m:=2) ⋯;exists⟨po,_,_,_,rfl,e6,⋯,⋯,y3.1,y3.2,λH2 x7 e7=>?_⟩;generalize fU T3.2.1 T3.2.2 2=T4 at r4 e7|-;have F:cj H H2:=λc u h=>x7 _ _ (je h hpo) (x6 _ _ (je h hpo) (aA _ _ h))
 have el:=x7 _ _ a0 (x6 _ _ a0 aq);have la:cn (eU H2) D o:=ad.mono λc x h=>x7 _ _ (Jz h a3 λz=>by cases z) (x6 _ _ (Jz h a3 λz=>by cases z) h)
 clear aA aq ad x6 x7 e6 e7 a3 H5 H6;obtain⟨O,aO⟩:∃O:Nat,T3.1=(O:Int):=⟨T3.1.toNat,⋯⟩
 rw[aO];generalize T4.1=en4;let⟨nd,nW⟩:=D3 (p:=p) (st:=5) (c:=O) (m:=⇑o) hp m1 ⋯ ⋯;have ng:∀{k:Nat},k<17->(nP p 5 O ⇑o).getD k ⟨#[]⟩=i2 p (nj 5 O ⇑o k):=λh=>DC h
 have nL:=DD (p:=p) (st:=5) (c:=O) (m:=⇑o);generalize nP p 5 O ⇑o=names at nd nW ng nL;exists⟨va _,?_⟩;walk_at"f nl hnl H3 s3 t3";exists⟨va _,?_⟩;walk_at"f ml hml H4 s4 t4";ac_nf;walk_at"f d hd' H5 s5 t5";exists⟨va _,?_⟩;walk_at"f pp hpp H6 s6 t6";have aj:=s4.trans (s5.trans s6);have a8:=s3.trans aj;have BB:m5 pl nl ml d pp D [] [] o names [] [] [] b4 H6:=by
  refine⟨⟨aj _ _ t3,s6 _ _ (s5 _ _ t4),.nil,(λks hk=>nomatch hk),rfl,va _,⋯,(λx hx=>nomatch hx),lW⟩,⟨a8 _ _ el,la.mono λc x h=>a8 _ _ h,m1⟩,s6 _ _ t5,t6,.nil,⟨rfl,rfl,(λi f h=>by simp at h),λi h=>ub h (Nat.not_lt_zero i)⟩,λj Y=>ub Y (Nat.not_lt_zero j),va _⟩
 have SS:pj pl nl ml pp bd []:=⟨je el hnl,je (s3 _ _ el) hml,je (s5 _ _ (s4 _ _ (s3 _ _ el))) hpp,je t3 hml,je (s5 _ _ (s4 _ _ t3)) hpp,je (s5 _ _ t4) hpp,je (F _ _ eb) hnl,je (s3 _ _ (F _ _ eb)) hml,je (s5 _ _ (s4 _ _ (s3 _ _ (F _ _ eb)))) hpp,(λx hx=>nomatch hx)⟩
 have aS:H nl=none:=none_of F hnl;have aR:H ml=none:=none_of (F.trans s3) hml;have aQ:H d=none:=none_of (F.trans (s3.trans s4)) hd';have aT:H pp=none:=none_of (F.trans (s3.trans (s4.trans s5))) hpp;have aY:=F.trans a8;clear a8 aj t3 t4 t5 t6 el la F s3 s4 s5 s6 hnl hml hd' hpp;exists⟨_,rfl,⋯,⋯,?_⟩;refine qG (λi σ H'=>pe λ(o5 ah ai a6 R:N3) (M G:L7) (v:List Fn) (W:List L8) (X:L5)=>fC (σ=[↥a,some (.int (B:Nat)),↥bd,↥po,some (.int (p:Nat)),↥pl,o5,some (.int (O:Nat)),~~~en4,↥nl,↥ml,↥d,↥pp,ah,ai,a6,R]) (cj H H') (m5 pl nl ml d pp D M G o names v W X b4 H') (pj pl nl ml pp bd G/\⇑v=i))
  ⟨_,_,_,_,_,[],[],[],[],[],rfl,aY,BB,SS,rfl⟩ ?_ ?_
 .rintro i σ H7 hi ⟨o5,ah,ai,a6,R,M,G,v,W,X,rfl,F,C,S,fl⟩;have aV:i<17:=⋯
  have tl:⇑(names.take ⇑v)=⇑v:=by rw[vi];lia
  have b8:⇑M=⇑v:=C.pa.1.trans zm;have gl:=C.dk.gl;have Ml:⇑W=⇑v:=by have:=C.n.ml;lia
  have b7:⇑G=⇑v:=by have:=C.n.am.1;lia
  have U:(names.take ⇑v).Nodup:=nd.sublist (take_sublist _ _);have af:∀j,j<⇑v->1<=X∘j/\X∘j<=b4:=λj Y=>⟨(C.dk.g j Y).1,C.gb j Y⟩
  exists⟨a,ns,_,rfl,F.seq hS,au,⋯,?_⟩;refine⟨_,rfl,?_⟩;ac_nf;generalize(if Pr.cell ns (1+(0+(i:Int)))<0 then -Pr.cell ns (1+(0+(i:Int)))else Pr.cell ns (1+(0+(i:Int))))=num;refine⟨_,_,rfl,⋯,⋯,?_⟩;have nb:=QZ num (1+(0+(i:Int)));generalize dP num (1+(0+(i:Int)))=yo at nb|-;exists⟨uA,?_⟩;walk_at"f ow how Ha sa ta";exists⟨λS' H'=>eD λ(xo:Int)=>eS (S'=[↥a,some (.int (B:Nat)),↥bd,↥po,some (.int (p:Nat)),↥pl,some (.int (0+(i:Int))),some (.int (O:Nat)),~~~en4,↥nl,↥ml,↥d,↥pp,~~~num,↥ow,a6,R]) (cj H7 H'/\H' ow=some (.lst [.int xo,.int yo])),?_,?_⟩
  rotate_left
  .exists cH (λc=>?_) (λc=>?_)
   .exists⟨ow,_,_,0,rfl,rfl,ta,rfl,?_⟩;exact⟨0,rfl,λc u h=>(jg (je h how)).trans (sa _ _ h),jA⟩
   .ac_nf;exact⟨num,rfl,sa,ta⟩
  rintro S' Hb ⟨xo,rfl,sb,tb⟩;have ob:Off ow H7 Hb:=λc u h=>⟨je h how,sb _ _ h⟩
  exists⟨ow,nl,ml,pl,bd,xo,yo,H7,G,D,o,names.take ⇑v,W,b0,b1,b2,b3,b4,rfl,tb,nb.1,nb.2,ob,C.n,C.l,⟨F _ _ eb,aD,aE,aF,aG,al,aH,aI,aJ,am,an⟩,λar f0 H8 x8 aa N=>?_⟩;have s8:cj H7 H8:=(ob.ex x8).same;rw[tl]at N;have C8:=C.same s8;exists⟨λS' H'=>gC λ(fa:Addr) (f:Fn)=>kb (S'=[↥a,some (.int (B:Nat)),↥bd,↥po,some (.int (p:Nat)),↥pl,some (.int (0+(i:Int))),some (.int (O:Nat)),~~~en4,↥nl,↥ml,↥d,↥pp,~~~num,↥ow,↥fa,R]) (cj H8 H') (cu H' fa (dy (names.take ⇑v) f)/\fe (cb o) (W.map (hJ (cb o))) ⇑v f),?_,?_⟩
  rotate_left
  .exists cH (λc=>?_) (λc=>?_)
   .exists cH (λc2=>?_) (λc2=>?_)
    .exists cE (cm.of (s8 _ _ (F _ _ eb))) rfl ?_;exists⟨nl,d,names.take ⇑v,X,b4,rfl,C8.n.en,C8.ed,U,⋯,⋯,⋯,λj Y=>af j ⋯,λb is H9 s9 e9 ne l5 jl=>?_⟩;exists⟨uA,?_⟩;walk_at"f fa hfa H10 s10 t10";ac_nf;exact⟨fa,.row is,rfl,s9.trans s10,⟨b,t10,s10 _ _ e9⟩,ne,⋯,λj Y=>by have:=jl j Y;lia⟩
    .ac_nf;exact⟨ar,f0,rfl,cj.refl _,aa,N⟩
   .ac_nf;exact⟨ar,f0,rfl,cj.refl _,aa,N⟩
  rintro S' H9 ⟨as,f1,rfl,s9,ab,a1⟩;have C9:=C8.same s9;have ak:=F.trans (s8.trans s9);clear C8 C aa N s8 s9 F;exists⟨λS' H'=>iX λ(fa:Addr) (f:Fn) (g:Int)=>nC (S'=[↥a,some (.int (B:Nat)),↥bd,↥po,some (.int (p:Nat)),↥pl,some (.int (0+(i:Int))),some (.int (O:Nat)),~~~en4,↥nl,↥ml,↥d,↥pp,~~~num,↥ow,↥fa,R]) (cj H9 H') (cu H' fa (dy (names.take ⇑v) f)) (fe (cb o) (W.map (hJ (cb o))) ⇑v f) (gO X f g/\g<=b4),?_,?_⟩
  rotate_left
  .exists⟨as,d,f1,names.take ⇑v,X,cb o,W.map (hJ (cb o)),rfl,ab,C9.ed,U,⋯,by rw[tl];exact a1,λj Y=>by have:=af j ⋯;lia,λg H10 s10 lg=>?_⟩;exists cE (cm.of (s10 _ _ (ak _ _ eb))) rfl ?_;exists cH (λc=>?_) (λc=>?_)
   .exists⟨uA,?_⟩;walk_at"f fa hfa H11 s11 t11";ac_nf;exact⟨fa,.hold 1,1,rfl,s10.trans s11,t11,⟨by decide,by decide⟩,rfl,am⟩
   .ac_nf;exact⟨as,f1,g,rfl,s10,cu.same s10 ab,a1,lg,⋯⟩
  rintro S' H10 ⟨fa,f,g,rfl,s10,hf,a7,lg,gb⟩;have n:=C9.same s10;have az:=ak.trans s10;clear C9 ab a1 s10 ak;exists⟨.inl ⟨rfl,_,cm.of n.n.em⟩,?_⟩;exists⟨fa,nl,ml,G,f,names.take ⇑v,W,cb o,W.map (hJ (cb o)),rfl,hf,n.n.en,n.n.em,n.n.am,U,⋯,⋯,by rw[tl];exact a7,λks hk=>by have:=n.n.il.len hk;lia,λl ks H11 s11 hl el mv kl=>?_⟩;exists⟨ml,_,_,rfl,rfl,s11 _ _ n.n.em,by rw[vt];lia,?_⟩;generalize I:upd H11 ml _=H12;have aK:H12 ml=some (.lst ((G++[l]).map V.ref)):=by rw[vj];exact Qn I
  have aw:∀c u,c≠ml->H11 c=some u->H12 c=some u:=λc u hc h=>I▸(jg hc).trans h
  clear I;have k2:∀c u,c≠ml->H10 c=some u->H12 c=some u:=λc u hc h=>aw c u hc (s11 _ _ h)
  have L:∀{c u},H10 c=some u->l≠c:=λh=>(je h hl).symm
  have ao:=aw _ _ (L n.n.em) el;have a4:d≠ml:=Jz n.ed n.n.em (λz=>by cases z);have a5:d≠nl:=Jz n.ed n.n.en (λz=>by cases z);have ag:d≠pp:=Jz n.ed n.ep (λz=>by cases z);exists⟨p,5+i,by rw[show(5+(0+(i:Int)))=((5+i:Nat):Int) by lia];rfl,hp,⋯,?_⟩;exists⟨λS' H'=>S'=[↥a,some (.int (B:Nat)),↥bd,↥po,some (.int (p:Nat)),↥pl,some (.int (0+(i:Int))),some (.int (O:Nat)),~~~en4,↥nl,↥ml,↥d,↥pp,~~~num,↥ow,↥fa,some (.str (names.getD ⇑v ⟨#[]⟩))]/\H12=H',?_,?_⟩
  rotate_left
  .have nk:=ng aV;rw[<-fl]at nk;exists cH (λc=>?_) (λc=>?_)
   .have ic:i=O:=⋯
    exists⟨_,_,rfl,.inl ⟨_,cm.of (k2 _ _ S.lm n.l.el),rfl⟩,?_⟩;rw[vt,ax];ac_nf;rw[show(0+(i:Int))%(⇑o:Int)=((i%⇑o:Nat):Int) by rw[ut];exact(Int.natCast_emod _ _).symm];have jm:=Nat.mod_lt i (show 0<⇑o by lia);let⟨lk,aU,aP⟩:=n.l.la.get (vz jm);have a9:H10 lk=some (.tup [.str (o[i%⇑o]).1,.int (o[i%⇑o]).2]):=aP;refine cE (cm.of (k2 _ _ S.lm n.l.el)) (jS (j:=i%⇑o) (by rw[vv,aU];rfl)) ?_;exists cz (k2 _ _ (Jz a9 n.n.em λz=>by cases z) a9) ?_;exists⟨?_,rfl⟩;have ew:(o[i%⇑o]).1=i2 p (i%⇑o):=by
     have h1:(cb o)[i%⇑o]?=some (o[i%⇑o]).1:=by unfold cb;rw[vv,vz jm];rfl
     rw[nm,Eg jm]at h1;exact(vL h1).symm
    rw[nk,fl];unfold nj;rw[vd ic,ew]
   .exists⟨?_,rfl⟩;rw[nk,fl];unfold nj;rw[vc ⋯]
  rintro S' aZ ⟨rfl,rfl⟩;exists⟨.inl ⟨rfl,_,cm.of (k2 _ _ S.nm n.n.en)⟩,?_⟩;exists⟨nl,_,_,rfl,rfl,k2 _ _ S.nm n.n.en,by rw[vt];lia,?_⟩;generalize I:upd H12 nl _=H13;have aL:H13 nl=some (.lst ((names.take (⇑v+1)).map V.str)):=by
   rw[take_snoc (show names[⇑v]?=some (names.getD ⇑v ⟨#[]⟩) by rw[vy,vz ⋯];rfl),vj];exact Qn I
  have ac:∀c u,c≠nl->H12 c=some u->H13 c=some u:=λc u hc h=>I▸(jg hc).trans h
  clear I;have b5:ft ((names.take (⇑v+1)).map V.str) (0+(i:Int))=some (.str (names.getD ⇑v ⟨#[]⟩)):=by
   rw[<-fl,ut];refine jS ?_;rw[vv,List.getElem?_take_of_lt ⋯,vy,vz ⋯];rfl
  have k3:∀c u,c≠ml->c≠nl->H10 c=some u->H13 c=some u:=λc u h1 h2 h=>ac c u h2 (k2 c u h1 h)
  exists⟨.inl ⟨rfl,_,cm.of (k3 _ _ S.mp.symm S.np.symm n.ep)⟩,?_⟩;exists⟨uA,?_⟩;walk_at"f c hc H14 s14 t14";exists⟨pp,_,_,rfl,rfl,s14 _ _ (k3 _ _ S.mp.symm S.np.symm n.ep),by rw[vt];lia,?_⟩;generalize I:upd H14 pp _=H15;have aM:H15 pp=some (.lst ((M++[c]).map V.ref)):=by rw[vj];exact Qn I
  have Z:∀c u,c≠pp->H14 c=some u->H15 c=some u:=λc u hc h=>I▸(jg hc).trans h
  clear I;have k4:∀c u,c≠ml->c≠nl->c≠pp->H10 c=some u->H15 c=some u:=λc u h1 h2 h3 h=>Z c u h3 (s14 _ _ (k3 c u h1 h2 h))
  have kt:∀c xs,H10 c=some (.tup xs)->H15 c=some (.tup xs):=λc xs h=>k4 c _ (Jz h n.n.em λz=>by cases z) (Jz h n.n.en λz=>by cases z) (Jz h n.ep λz=>by cases z) h
  have aX:c≠pp:=(je (k3 _ _ S.mp.symm S.np.symm n.ep) hc).symm;exists⟨fa,d,f,names.take ⇑v,X,cb o,W.map (hJ (cb o)),rfl,cu.keep kt hf,k4 _ _ a4 a5 ag n.ed,U,⋯,by rw[tl];exact a7,λj Y=>by have:=af j ⋯;lia,λg' aC ay aW=>?_⟩;obtain rfl:=lg.uniq aW;exists⟨d,_,rfl,gM.k (k:=Sum.inr (names.getD ⇑v ⟨#[]⟩)) (ay _ _ (k4 _ _ a4 a5 ag n.ed)) (by rw[Dv ⋯];lia),?_⟩;have xn:names.getD ⇑v ⟨#[]⟩∉names.take ⇑v:=λz=>by
   let⟨j,Y,e⟩:=mem_iff_getElem.mp z;rw[getElem_take]at e;have jl:j<⇑v:=by rw[tl]at Y;exact Y
   have e2:names[j]?=some (names.getD ⇑v ⟨#[]⟩):=by rw[vz ⋯,e]
   have e3:names[⇑v]?=some (names.getD ⇑v ⟨#[]⟩):=by rw[vy,vz ⋯];rfl
   have:=Je nd e2;have:=Je nd e3;lia
  rw[Dw ⋯ xn];generalize I:upd aC d _=H17;have aN:H17 d=some (.dK (lH (names.take (⇑v+1)) (X++[g]))):=by
   rw[take_snoc (show names[⇑v]?=some (names.getD ⇑v ⟨#[]⟩) by rw[vy,vz ⋯];rfl)];exact Qn I
  have J:∀c u,c≠d->H15 c=some u->H17 c=some u:=λc u hc h=>I▸(jg hc).trans (ay _ _ h)
  clear I;have aB:=n.add (fa:=fa) (l:=l) (c:=c) (f:=f) (ks:=ks) (g:=g) (H':=H17) S (by rw[<-xB a7];exact hf) a7 mv lg gb an ⋯ ⋯ nW (λx u h1 h2 h3 h4 h=>J _ _ h4 (k4 _ _ h1 h2 h3 h)) (J _ _ a4.symm (Z _ _ S.mp (s14 _ _ (ac _ _ S.nm.symm aK)))) (J _ _ (L n.ed) (Z _ _ (L n.ep) (s14 _ _ (ac _ _ (L n.n.en) ao)))) (J _ _ a5.symm (Z _ _ S.np (s14 _ _ aL))) (J _ _ ag.symm aM) (J _ _ (Jz t14 (s14 _ _ (k3 _ _ a4 a5 n.ed)) λz=>by cases z) (Z _ _ aX t14)) aN;exact⟨_,_,_,_,_,M++[c],G++[l],v++[f],W++[ks],X++[g],rfl,λx u h=>J _ _ (je h aQ) (k4 _ _ (je h aR) (je h aS) (je h aT) (az _ _ h)),aB,S.add ⟨L n.n.en,L n.n.em,L n.ep⟩,by rw[vn,fl];rfl⟩
 rintro S' H7 ⟨o5,ah,ai,a6,R,M,G,v,W,X,rfl,F,C,S,fl⟩
 replace fl:⇑v=B+1:=⋯
 have gl:=C.dk.gl;have tl:⇑(names.take ⇑v)=⇑v:=by rw[vi];lia
 have U:(names.take ⇑v).Nodup:=nd.sublist (take_sublist _ _);exists⟨uA,?_⟩;walk_at"f b hbb H8 s8 t8";have C8:=C.same s8;exists cE (cm.of C8.n.en) (ZJ (j:=B) ⋯) ?_;have g:=dA.k (k:=Sum.inr ((names.take ⇑v).getD B ⟨#[]⟩)) C8.ed;rw[Wk U ⋯ ⋯]at g;refine⟨d,_,rfl,g,?_⟩;exists⟨uA,?_⟩;walk_at"f r hr' H9 s9 t9";exact q r b pl pp D M names o v _ X H9 (F.trans (s8.trans s9)) (by rw[show ⇑v-1=B by lia];exact t9) ((C8.book t8).same s9) C.dk (C.dk.sn C.fl nd ae ⋯ ⋯ ⋯ lh) fl nL nd nW m1 ⋯ ae lW S.lp C.gb
def E9(T:Txt K mg t)(jL:1<*t.JD t.JF ["_law_script","_law_k"] (Pr.dR K))(jM:1<*t.JM t.JN ["_law_cell","_law_k"] (kc))(qo:1<*t.zF t.zK ["_law_place","_law_k"] (gJ))(Yi:2<*t.Yo t.Yz ["_law_number","_law_names","_law_movers","_law_limbs","_law_bounds"] (iL))(qm:1<*t.zD t.zI ["_law_form_here","_law_known"] (gI))(qX:1<*t.QT t.QW ["_law_form_here","_law_names","_law_movers"] (fY))(QG:1<*t.zC t.zH ["_law_names","_law_known","_law_most"] (gH))(zc:5<*t.zg t.zj ["_law_script","_law_many","_law_bounds"] (fM K)):6<*t.Yn t.Yy ["_law_script","_law_many","_law_bounds"] (fM K):=by
 specialize T.wL.F.ok jW;let⟨a,bd,ns,y,b0,b1,b2,b3,b4,rfl,hS,a1,m2,aS,Bd,q⟩:=h;refine⟨_,(jb (jP (jt EG (jE WG (by rfl) T.A6 Ay (ja (jq T.Jh jL hr (ja (pv 0) (ja jd jc))) jc)) (jr zN jd jd) (cg _))
   (jf (jx (jq T.Z9 zc hr (ja (pv 0) (ja (pv 1) (ja (pv 2) jc))))))
   jw)
  (jb (cM 3 jW.nd (jq T.Js jM hr (ja (jq T.Js jM hr (ja (jq T.Jh jL hr (ja (pv 0) (ja jd jc))) (ja jd jc))) (ja jd jc))))
  (jb (cM 4 jW.nd (jO jc))
  (jb (Jd PassesOwn.never rfl (JK (by rfl) T.qJ (ja (jr jR jd (jr j3 (jr Jj (pv 3) jd) jd)) jc)) (cW 5 jW.nd)
   (jb (cM 6 jW.nd (jr j3 (jr Jj (pv 3) (jo jz (jO (ja jd (ja jd (ja jd (ja jd jc))))) (pv 5))) (jo jz (pv 2) jd)))
   (jf (jV (qa q5 q7 iA jT (pv 4) (ja (jH (ja (jq T.zA qo hr (ja (jr j3 (pv 3) jd) (ja (pv 5) jc))) (ja (pv 6) jc))) jc))))))
  (jb (cM 7 jW.nd (jO jc))
  (jb (cM 8 jW.nd (jO jc))
  (jb (cM 9 jW.nd yg)
  (jb (cM 10 jW.nd (jO jc))
  (jb (Jd PassesOwn.never rfl (JK (by rfl) T.qJ (ja (jr jR (pv 1) jd) jc)) (cW 5 jW.nd)
   (jb (cM 11 jW.nd (jq T.Js jM hr (ja (jq T.Js jM hr (ja (jq T.Jh jL hr (ja (pv 0) (ja (jr jR jd (pv 5)) jc))) (ja (jr jR jd (pv 5)) jc))) (ja (jr jR jd (pv 5)) jc))))
   (jb (cM 12 jW.nd (jq T.wM Yi hr (ja (pv 11) (ja (pv 7) (ja (pv 8) (ja (pv 4) (ja (pv 2) jc)))))))
   (jb (Q2 (PW.pt (Q3 (jt Jb (pv 5) (pv 1) (cg _)) (Qv (jt Jb (jr j3 (jr Jj (pv 3) jd) jd) jd (cg _)))))
    (jf (cM 12 jW.nd (jH (ja jI (ja (jq T.Ye QG hr (ja (pv 7) (ja (pv 9) (ja (jo jz (pv 2) jd) jc)))) jc)))))
    jw)
   (jb (Q2 (jt kq (jq T.zx qm hr (ja (pv 12) (ja (pv 9) jc))) (jo jz (pv 2) jd) (cg _))
    (jf (cM 12 jW.nd (jH (ja jI (ja jd jc)))))
    jw)
   (jb (jV (qa q5 q7 iA jT (pv 8) (ja (jq T.yB qX hr (ja (pv 12) (ja (pv 7) (ja (pv 8) jc)))) jc)))
   (jb (cM 13 jW.nd (jq T.zA qo hr (ja (jr j3 (pv 3) jd) (ja (jr jR jd (pv 5)) jc))))
   (jb (Q2 (PW.pt (Q3 (jt Jb (pv 5) (jr j3 (jr Jj (pv 3) jd) (jr jR (pv 1) jd)) (cg _)) (Qv (jt Jb (jr j3 (jr Jj (pv 3) jd) jd) jd (cg _)))))
    (jf (cM 13 jW.nd (jo jv (jo jz (pv 4) (jr j3 (pv 5) (jE jY (by rfl) T.JZ Jp (ja (pv 4) jc)))) jd)))
    jw)
   (jb (jV (qa q5 q7 iA jT (pv 7) (ja (pv 13) jc)))
   (jb (jV (qa q5 q7 iA jT (pv 10) (ja (jH (ja (jo jz (pv 7) (pv 5)) (ja (pv 12) jc))) jc)))
   (jf (yQ (qp hr) (pv 9) (jo jz (pv 7) (pv 5)) (jq T.zx qm hr (ja (pv 12) (ja (pv 9) jc))) rfl))))))))))))
  (jf (jx (jH (ja (jH (ja (pv 4) (ja (pv 10) jc))) (ja (Qu (qp hr) (pv 9) (jo jz (pv 7) (pv 1))) jc)))))))))))))),?_⟩
 rotate_right 311
 have au:=Bd;let⟨eb,ax,ay,az,aA,aB,aC,aD,aE,al,am⟩:=Bd;exists⟨a,ns,_,rfl,hS,a1,⋯,?_⟩;refine⟨_,rfl,?_⟩;exists cH (λc=>?_) (λc=>?_)
 .ac_nf;exact⟨a,bd,ns,y,b0,b1,b2,b3,b4,rfl,hS,a1,m2,aS,au,q⟩
 clear c;exists⟨a,ns,_,rfl,hS,a1,⋯,?_⟩;exists⟨_,_,rfl,⋯,⋯,?_⟩;exists⟨_,_,rfl,⋯,⋯,?_⟩;have hb:=QZ (dP (Pr.cell ns 0) 0) 90;generalize dP (dP (Pr.cell ns 0) 0) 90=hd at hb|-;obtain⟨p,e3⟩:∃p:Nat,hd%3=(p:Int):=⟨(hd%3).toNat,⋯⟩
 have hp:p<3:=⋯
 exists⟨va _,?_⟩;walk_at"f pl hpl H1 s1 t1";exists⟨_,rfl,⋯,⋯,?_⟩;refine qG (λi σ H'=>mq λ(o5 o6:N3) (D:L7) (o:L4)=>sy (σ=[↥a,some (.int (y:Nat)),↥bd,~~~hd,↥pl,o5,o6,none,none,none,none,none,none,none]) (cj H H') (H' pl=some (.lst (D.map V.ref))) (cn (eU H') D o) (cb o=nu p i) (⇑o=i) (∀q∈o,0<=q.2/\q.2<=10^18)) ⟨_,_,[],[],rfl,s1,t1,.nil,rfl,rfl,(λq h=>nomatch h)⟩ ?_ ?_
 .rintro i σ H' hi ⟨o5,o6,D,o,rfl,F,Y,la,nm,ll,lh⟩;have i4:i<4:=⋯
  have ar:=la.1;obtain⟨w',aP,w1,w2⟩:∃w':Int,ft [V.int 100,V.int 1000,V.int 10000,V.int 100000] (0+(i:Int))= ~~~w'/\100<=w'/\w'<=100000:=by
   have:i=0\/i=1\/i=2\/i=3:=⋯
   rcases this with rfl | rfl | rfl | rfl
   .exact⟨100,rfl,by decide,by decide⟩
   .exact⟨1000,rfl,by decide,by decide⟩
   .exact⟨10000,rfl,by decide,by decide⟩
   .exact⟨100000,rfl,by decide,by decide⟩
  exists⟨uC,?_⟩;sleep 2;exists cE (cm.of t2) (aP) ?_;exists cE (cm.of (s2 _ _ (F _ _ eb))) rfl ?_;ac_nf;have v0:=ve (hd/w') (show b2≠0 by lia);have v1:=vf (hd/w') (show 0<b2 by lia);generalize hd/w'%b2=v at v0 v1|-;refine⟨.inl ⟨rfl,_,cm.of (s2 _ _ Y)⟩,?_⟩;exists⟨p,i,by rw[e3,ut];rfl,hp,⋯,?_⟩;exists⟨uA,?_⟩;sleep 3;have a5:=s2.trans s3;exists⟨pl,_,_,rfl,rfl,a5 _ _ Y,by rw[vt];lia,?_⟩;have kt:∀c xs,H3 c=some (.tup xs)->upd H3 pl (.lst (D.map V.ref++[.ref p3])) c=some (.tup xs):=λc xs h=>(jg (Jz h (a5 _ _ Y) λz=>by cases z)).trans h
  refine⟨_,_,D++[p3],o++[(i2 p i,v)],rfl,λc u h=>?_,by rw[jA,vj];rfl,(la.mono λc x h=>kt _ _ (a5 _ _ h)).snoc (kt _ _ t3),?_,by rw[vn,ll];rfl,λq hq=>?_⟩
  .refine(jg ?_).trans (a5 _ _ (F _ _ h));exact je h hpl
  .rw[Cv,<-nm];unfold cb;rw[vj];rfl
  .rcases vh.mp hq with z | z
   .exact lh q z
   .rw[vo.mp z];exact⟨v0,by show v<=10^18;lia⟩
 rintro S' H2 ⟨o5,o6,D,o,rfl,F,Y,la,nm,ll,lh⟩;have m1:1<=⇑o:=⋯
 have m4:⇑o<=4:=⋯
 replace nm:cb o=nu p ⇑o:=by rw[nm,ll]
 let⟨ac,lW⟩:=Eh (m:=⇑o) hp ⋯;rw[<-nm]at ac lW;clear ll s1 t1 H1;have Ll:⇑(cb o)=⇑o:=vt _;have ar:=la.1;obtain⟨cc,aN⟩:∃cc:Nat,∀i:Nat,i<=y->(i=cc↔((i:Int)=hd/48%((y:Int)+1)/\hd/24%2=0)):=by
  have u0:=ve (hd/48) (show((y:Int)+1)≠0 by lia);have u1:=vf (hd/48) (show(0:Int)<(y:Int)+1 by lia);by_cases c:hd/24%2=0
  .exact⟨(hd/48%((y:Int)+1)).toNat,λi hi=>⋯⟩
  .exact⟨100,λi hi=>⋯⟩
 let⟨nd,nW⟩:=D3 (p:=p) (st:=5) (c:=cc) (m:=⇑o) hp m1 ⋯ ⋯;have ng:∀{k:Nat},k<17->(nP p 5 cc ⇑o).getD k ⟨#[]⟩=i2 p (nj 5 cc ⇑o k):=λh=>DC h
 have nL:=DD (p:=p) (st:=5) (c:=cc) (m:=⇑o);generalize nP p 5 cc ⇑o=names at nd nW ng nL;exists⟨va _,?_⟩;walk_at"f nl hnl H3 s3 t3";exists⟨va _,?_⟩;walk_at"f ml hml H4 s4 t4";ac_nf;walk_at"f d hd' H5 s5 t5";exists⟨va _,?_⟩;walk_at"f pp hpp H6 s6 t6";have ai:=s4.trans (s5.trans s6);have a6:=s3.trans ai;have BB:m5 pl nl ml d pp D [] [] o names [] [] [] b4 H6:=by
  refine⟨⟨ai _ _ t3,s6 _ _ (s5 _ _ t4),.nil,(λks hk=>nomatch hk),rfl,va _,⋯,(λx hx=>nomatch hx),lW⟩,⟨a6 _ _ Y,la.mono λc x h=>a6 _ _ h,m1⟩,s6 _ _ t5,t6,.nil,⟨rfl,rfl,(λi f h=>by simp at h),λi h=>ub h (Nat.not_lt_zero i)⟩,λj X=>ub X (Nat.not_lt_zero j),va _⟩
 have SS:pj pl nl ml pp bd []:=⟨je Y hnl,je (s3 _ _ Y) hml,je (s5 _ _ (s4 _ _ (s3 _ _ Y))) hpp,je t3 hml,je (s5 _ _ (s4 _ _ t3)) hpp,je (s5 _ _ t4) hpp,je (F _ _ eb) hnl,je (s3 _ _ (F _ _ eb)) hml,je (s5 _ _ (s4 _ _ (s3 _ _ (F _ _ eb)))) hpp,(λx hx=>nomatch hx)⟩
 have aL:H nl=none:=none_of F hnl;have aK:H ml=none:=none_of (F.trans s3) hml;have aJ:H d=none:=none_of (F.trans (s3.trans s4)) hd';have aM:H pp=none:=none_of (F.trans (s3.trans (s4.trans s5))) hpp;have aU:=F.trans a6;clear a6 ai t3 t4 t5 t6 Y la F s3 s4 s5 s6 hnl hml hd' hpp;exists⟨_,rfl,⋯,⋯,?_⟩;refine qG (λi σ H'=>sF λ(o5 af ag Z:N3) (M G:L7) (B:List Fn) (U:List L8) (W:L5)=>fC (σ=[↥a,some (.int (y:Nat)),↥bd,~~~hd,↥pl,o5,o6,↥nl,↥ml,↥d,↥pp,af,ag,Z]) (cj H H') (m5 pl nl ml d pp D M G o names B U W b4 H') (pj pl nl ml pp bd G/\⇑B=i))
  ⟨_,_,_,_,[],[],[],[],[],rfl,aU,BB,SS,rfl⟩ ?_ ?_
 .rintro i σ H7 hi ⟨o5,af,ag,Z,M,G,B,U,W,rfl,F,C,S,fl⟩;have aQ:i<17:=⋯
  have tl:⇑(names.take ⇑B)=⇑B:=by rw[vi];lia
  have aX:⇑M=⇑B:=C.pa.1.trans zm;have gl:=C.dk.gl;have Ml:⇑U=⇑B:=by have:=C.n.ml;lia
  have aW:⇑G=⇑B:=by have:=C.n.am.1;lia
  have R:(names.take ⇑B).Nodup:=nd.sublist (take_sublist _ _);have ad:∀j,j<⇑B->1<=W∘j/\W∘j<=b4:=λj X=>⟨(C.dk.g j X).1,C.gb j X⟩
  exists⟨a,ns,_,rfl,F.seq hS,a1,⋯,?_⟩;exists⟨_,_,rfl,⋯,⋯,?_⟩;exists⟨_,_,rfl,⋯,⋯,?_⟩;have nb:=QZ (dP (Pr.cell ns (1+(0+(i:Int)))) (1+(0+(i:Int)))) (91+(0+(i:Int)));generalize dP (dP (Pr.cell ns (1+(0+(i:Int)))) (1+(0+(i:Int)))) (91+(0+(i:Int)))=num at nb|-;exists⟨num,nl,ml,pl,bd,G,D,o,names.take ⇑B,U,b0,b1,b2,b3,b4,rfl,C.n,C.l,⟨F _ _ eb,ax,ay,az,aA,aB,aC,aD,aE,al,am⟩,⋯,⋯,λao f0 H8 s8 a9 N=>?_⟩;rw[tl]at N;have C8:=C.same s8;exists⟨λS' H'=>gC λ(fa:Addr) (f:Fn)=>kb (S'=[↥a,some (.int (y:Nat)),↥bd,~~~hd,↥pl,some (.int (0+(i:Int))),o6,↥nl,↥ml,↥d,↥pp,~~~num,↥fa,Z]) (cj H8 H') (cu H' fa (dy (names.take ⇑B) f)/\fe (cb o) (U.map (hJ (cb o))) ⇑B f),?_,?_⟩
  rotate_left
  .exists cH (λc=>?_) (λc=>?_)
   .exists cH (λc2=>?_) (λc2=>?_)
    .exists cE (cm.of (s8 _ _ (F _ _ eb))) rfl ?_;exists⟨nl,d,names.take ⇑B,W,b4,rfl,C8.n.en,C8.ed,R,⋯,⋯,⋯,λj X=>ad j ⋯,λb is H9 s9 e9 ne l5 jl=>?_⟩;exists⟨uA,?_⟩;walk_at"f fa hfa H10 s10 t10";ac_nf;exact⟨fa,.row is,rfl,s9.trans s10,⟨b,t10,s10 _ _ e9⟩,ne,⋯,λj X=>by have:=jl j X;lia⟩
    .ac_nf;exact⟨ao,f0,rfl,cj.refl _,a9,N⟩
   .ac_nf;exact⟨ao,f0,rfl,cj.refl _,a9,N⟩
  rintro S' H9 ⟨ap,f1,rfl,s9,aa,a0⟩;have C9:=C8.same s9;have aj:=F.trans (s8.trans s9);clear C8 C a9 N s8 s9 F;exists⟨λS' H'=>iX λ(fa:Addr) (f:Fn) (g:Int)=>nC (S'=[↥a,some (.int (y:Nat)),↥bd,~~~hd,↥pl,some (.int (0+(i:Int))),o6,↥nl,↥ml,↥d,↥pp,~~~num,↥fa,Z]) (cj H9 H') (cu H' fa (dy (names.take ⇑B) f)) (fe (cb o) (U.map (hJ (cb o))) ⇑B f) (gO W f g/\g<=b4),?_,?_⟩
  rotate_left
  .exists⟨ap,d,f1,names.take ⇑B,W,cb o,U.map (hJ (cb o)),rfl,aa,C9.ed,R,⋯,by rw[tl];exact a0,λj X=>by have:=ad j ⋯;lia,λg H10 s10 lg=>?_⟩;exists cE (cm.of (s10 _ _ (aj _ _ eb))) rfl ?_;exists cH (λc=>?_) (λc=>?_)
   .exists⟨uA,?_⟩;walk_at"f fa hfa H11 s11 t11";ac_nf;exact⟨fa,.hold 1,1,rfl,s10.trans s11,t11,⟨by decide,by decide⟩,rfl,al⟩
   .ac_nf;exact⟨ap,f1,g,rfl,s10,cu.same s10 aa,a0,lg,⋯⟩
  rintro S' H10 ⟨fa,f,g,rfl,s10,hf,a4,lg,gb⟩;have n:=C9.same s10;have as:=aj.trans s10;clear C9 aa a0 s10 aj;exists⟨.inl ⟨rfl,_,cm.of n.n.em⟩,?_⟩;exists⟨fa,nl,ml,G,f,names.take ⇑B,U,cb o,U.map (hJ (cb o)),rfl,hf,n.n.en,n.n.em,n.n.am,R,⋯,⋯,by rw[tl];exact a4,λks hk=>by have:=n.n.il.len hk;lia,λl ks H11 s11 hl Y mv kl=>?_⟩;exists⟨ml,_,_,rfl,rfl,s11 _ _ n.n.em,by rw[vt];lia,?_⟩;generalize I:upd H11 ml _=H12;have aF:H12 ml=some (.lst ((G++[l]).map V.ref)):=by rw[vj];exact Qn I
  have aq:∀c u,c≠ml->H11 c=some u->H12 c=some u:=λc u hc h=>I▸(jg hc).trans h
  clear I;have k2:∀c u,c≠ml->H10 c=some u->H12 c=some u:=λc u hc h=>aq c u hc (s11 _ _ h)
  have L:∀{c u},H10 c=some u->l≠c:=λh=>(je h hl).symm
  have an:=aq _ _ (L n.n.em) Y;have a2:d≠ml:=Jz n.ed n.n.em (λz=>by cases z);have a3:d≠nl:=Jz n.ed n.n.en (λz=>by cases z);have ae:d≠pp:=Jz n.ed n.ep (λz=>by cases z);exists⟨p,5+i,by rw[e3,show(5+(0+(i:Int)))=((5+i:Nat):Int) by lia];rfl,hp,⋯,?_⟩;exists⟨λS' H'=>S'=[↥a,some (.int (y:Nat)),↥bd,~~~hd,↥pl,some (.int (0+(i:Int))),o6,↥nl,↥ml,↥d,↥pp,~~~num,↥fa,some (.str (names.getD ⇑B ⟨#[]⟩))]/\H12=H',?_,?_⟩
  rotate_left
  .have hz:=aN i ⋯;have nk:=ng aQ;rw[<-fl]at nk;exists cH (λc=>?_) (λc=>?_)
   .exists cH (λc2=>?_) (λc2=>?_)
    .have ic:i=cc:=hz.mpr ⟨⋯,c2⟩;exists⟨_,_,rfl,.inl ⟨_,cm.of (k2 _ _ S.lm n.l.el),rfl⟩,?_⟩;rw[vt,ar];ac_nf;rw[show(0+(i:Int))%(⇑o:Int)=((i%⇑o:Nat):Int) by rw[ut];exact(Int.natCast_emod _ _).symm];have jm:=Nat.mod_lt i (show 0<⇑o by lia);let⟨lk,aO,aI⟩:=n.l.la.get (vz jm);have a7:H10 lk=some (.tup [.str (o[i%⇑o]).1,.int (o[i%⇑o]).2]):=aI;refine cE (cm.of (k2 _ _ S.lm n.l.el)) (jS (j:=i%⇑o) (by rw[vv,aO];rfl)) ?_;exists cz (k2 _ _ (Jz a7 n.n.em λz=>by cases z) a7) ?_;exists⟨?_,rfl⟩;have ew:(o[i%⇑o]).1=i2 p (i%⇑o):=by
      have h1:(cb o)[i%⇑o]?=some (o[i%⇑o]).1:=by unfold cb;rw[vv,vz jm];rfl
      rw[nm,Eg jm]at h1;exact(vL h1).symm
     rw[nk,fl];unfold nj;rw[vd ic,ew]
    .exists⟨?_,rfl⟩;rw[nk,fl];unfold nj;rw[vc (λz=>c2 (hz.mp z).2)]
   .exists⟨?_,rfl⟩;rw[nk,fl];unfold nj;rw[vc (λz=>c (by have:=(hz.mp z).1;lia))]
  rintro S' aV ⟨rfl,rfl⟩;exists⟨.inl ⟨rfl,_,cm.of (k2 _ _ S.nm n.n.en)⟩,?_⟩;exists⟨nl,_,_,rfl,rfl,k2 _ _ S.nm n.n.en,by rw[vt];lia,?_⟩;generalize I:upd H12 nl _=H13;have a8:H13 nl=some (.lst ((names.take (⇑B+1)).map V.str)):=by
   rw[take_snoc (show names[⇑B]?=some (names.getD ⇑B ⟨#[]⟩) by rw[vy,vz ⋯];rfl),vj];exact Qn I
  have ab:∀c u,c≠nl->H12 c=some u->H13 c=some u:=λc u hc h=>I▸(jg hc).trans h
  clear I;have ak:ft ((names.take (⇑B+1)).map V.str) (0+(i:Int))=some (.str (names.getD ⇑B ⟨#[]⟩)):=by
   rw[<-fl,ut];refine jS ?_;rw[vv,List.getElem?_take_of_lt ⋯,vy,vz ⋯];rfl
  have k3:∀c u,c≠ml->c≠nl->H10 c=some u->H13 c=some u:=λc u h1 h2 h=>ab c u h2 (k2 c u h1 h)
  exists⟨.inl ⟨rfl,_,cm.of (k3 _ _ S.mp.symm S.np.symm n.ep)⟩,?_⟩;exists cE (cm.of a8) (ak) ?_;exists⟨uA,?_⟩;walk_at"f c hc H14 s14 t14";exists⟨pp,_,_,rfl,rfl,s14 _ _ (k3 _ _ S.mp.symm S.np.symm n.ep),by rw[vt];lia,?_⟩;generalize I:upd H14 pp _=H15;have aG:H15 pp=some (.lst ((M++[c]).map V.ref)):=by rw[vj];exact Qn I
  have O:∀c u,c≠pp->H14 c=some u->H15 c=some u:=λc u hc h=>I▸(jg hc).trans h
  clear I;have k4:∀c u,c≠ml->c≠nl->c≠pp->H10 c=some u->H15 c=some u:=λc u h1 h2 h3 h=>O c u h3 (s14 _ _ (k3 c u h1 h2 h))
  have kt:∀c xs,H10 c=some (.tup xs)->H15 c=some (.tup xs):=λc xs h=>k4 c _ (Jz h n.n.em λz=>by cases z) (Jz h n.n.en λz=>by cases z) (Jz h n.ep λz=>by cases z) h
  have aT:c≠pp:=(je (k3 _ _ S.mp.symm S.np.symm n.ep) hc).symm;exists⟨fa,d,f,names.take ⇑B,W,cb o,U.map (hJ (cb o)),rfl,cu.keep kt hf,k4 _ _ a2 a3 ae n.ed,R,⋯,by rw[tl];exact a4,λj X=>by have:=ad j ⋯;lia,λg' aw ah aR=>?_⟩;obtain rfl:=lg.uniq aR;exists cE (cm.of (ah _ _ (O _ _ S.np (s14 _ _ a8)))) (ak) ?_;refine⟨d,_,rfl,gM.k (k:=Sum.inr (names.getD ⇑B ⟨#[]⟩)) (ah _ _ (k4 _ _ a2 a3 ae n.ed)) (by rw[Dv ⋯];lia),?_⟩;have xn:names.getD ⇑B ⟨#[]⟩∉names.take ⇑B:=λz=>by
   let⟨j,X,e⟩:=mem_iff_getElem.mp z;rw[getElem_take]at e;have jl:j<⇑B:=by rw[tl]at X;exact X
   have e2:names[j]?=some (names.getD ⇑B ⟨#[]⟩):=by rw[vz ⋯,e]
   have e3:names[⇑B]?=some (names.getD ⇑B ⟨#[]⟩):=by rw[vy,vz ⋯];rfl
   have:=Je nd e2;have:=Je nd e3;lia
  rw[Dw ⋯ xn];generalize I:upd aw d _=H17;have aH:H17 d=some (.dK (lH (names.take (⇑B+1)) (W++[g]))):=by
   rw[take_snoc (show names[⇑B]?=some (names.getD ⇑B ⟨#[]⟩) by rw[vy,vz ⋯];rfl)];exact Qn I
  have J:∀c u,c≠d->H15 c=some u->H17 c=some u:=λc u hc h=>I▸(jg hc).trans (ah _ _ h)
  clear I;have av:=n.add (fa:=fa) (l:=l) (c:=c) (f:=f) (ks:=ks) (g:=g) (H':=H17) S (by rw[<-xB a4];exact hf) a4 mv lg gb am ⋯ ⋯ nW (λx u h1 h2 h3 h4 h=>J _ _ h4 (k4 _ _ h1 h2 h3 h)) (J _ _ a2.symm (O _ _ S.mp (s14 _ _ (ab _ _ S.nm.symm aF)))) (J _ _ (L n.ed) (O _ _ (L n.ep) (s14 _ _ (ab _ _ (L n.n.en) an)))) (J _ _ a3.symm (O _ _ S.np (s14 _ _ a8))) (J _ _ ae.symm aG) (J _ _ (Jz t14 (s14 _ _ (k3 _ _ a2 a3 n.ed)) λz=>by cases z) (O _ _ aT t14)) aH;exact⟨_,_,_,_,M++[c],G++[l],B++[f],U++[ks],W++[g],rfl,λx u h=>J _ _ (je h aJ) (k4 _ _ (je h aK) (je h aL) (je h aM) (as _ _ h)),av,S.add ⟨L n.n.en,L n.n.em,L n.ep⟩,by rw[vn,fl];rfl⟩
 rintro S' H7 ⟨o5,af,ag,Z,M,G,B,U,W,rfl,F,C,S,fl⟩
 replace fl:⇑B=y+1:=⋯
 have gl:=C.dk.gl;have tl:⇑(names.take ⇑B)=⇑B:=by rw[vi];lia
 have R:(names.take ⇑B).Nodup:=nd.sublist (take_sublist _ _);exists⟨uA,?_⟩;walk_at"f b hbb H8 s8 t8";have C8:=C.same s8;exists cE (cm.of C8.n.en) (ZJ (j:=y) ⋯) ?_;have g:=dA.k (k:=Sum.inr ((names.take ⇑B).getD y ⟨#[]⟩)) C8.ed;rw[Wk R ⋯ ⋯]at g;refine⟨d,_,rfl,g,?_⟩;exists⟨uA,?_⟩;walk_at"f r hr' H9 s9 t9";exact q r b pl pp D M names o B _ W H9 (F.trans (s8.trans s9)) (by rw[show ⇑B-1=y by lia];exact t9) ((C8.book t8).same s9) C.dk (C.dk.sn C.fl nd ac ⋯ ⋯ ⋯ lh) fl nL nd nW m1 ⋯ ac lW S.lp C.gb
def WC(T:Txt K mg t):1<*t.QH t.QJ ["_law_pins"] (eC 0):=by
 refine T.QF.F.ok yX (λc H Q E h=>?_) (λb A a s H c Q E d h=>?_)
 .exact ub h (Cz)
 .exact ub h (Cz)
def jh{m rl:Nat}(T:Txt K mg t)(zB:rl<*t.QH t.QJ ["_law_pins"] (eC m)):(rl+1)<*t.QH t.QJ ["_law_pins"] (eC (m+1)):=by
 specialize T.QF.F.ok yX;let⟨v,d,rfl,dv,I,q⟩:=h;refine⟨_,(jb (jP (jt Mr (pv 0) wB (cg _))
   (jf (jx (jH (ja jd jc))))
   jw)
  (jb (Jd PassesOwn.never rfl (JK (by rfl) T.qJ (ja (jE jY (by rfl) T.JZ Jp (ja (pv 0) jc)) jc)) (cW 1 yX.nd)
   (jf (jP (wD (jE GV (by rfl) T.qZ qE (ja (jo jv (pv 0) (pv 1)) (ja (DH (v:=.ty "tuple") (by rfl) T.ZL zG rfl) jc))))
    (jf (jx (jr Kx (jr Kx (qR KE (pv 0) Q1 (Qe (pv 1))) (jH (ja (DI (zB.mono (vb _)) hr (by rfl) T.QF.m T.QF.F.kp T.QF.B .nil cZ (ja (jo jv (pv 0) (pv 1)) jc)) jc))) (qR KE (pv 0) (Qe (jr jR (pv 1) jd)) Q1))))
    jw)))
  (jf (jx (jr Kx (jH (ja (jr jR (jo jv (pv 0) jd) jd) jc)) (qR KE (pv 0) (Qe jd) Q1)))))),?_⟩
 rotate_right 101
 rcases I with⟨rfl,hn⟩ | I
 .cases dv;exists⟨rfl,true,rfl,?_⟩;refine eB ?_;exists⟨ua,?_⟩;sleep 1;ac_nf;exact q _ _ H1 s1 (.tup t1 (.cons (.int 0) .nil)) ((cU.tup (n:=0) λx f=>by rw[vo.mp f];exact cU.int).mono ⋯) (by rw[PyData.eqv])
 .let⟨o,rfl,L,f,hk⟩:=I;cases dv with
  | tup e r=>
  rename_i a xs;have xl:=uH r;have sh:∀x∈o,cU m x:=λx h=>by
   rcases f x h with⟨i,rfl⟩ | rfl | h
   .exact cU.int.mono (va _)
   .exact cU.none
   .exact h.ES
  exists⟨rfl,false,rfl,?_⟩;refine eN rfl ?_;exists⟨_,_,rfl,.inr ⟨xs,cJ.of e,rfl⟩,?_⟩;exists⟨_,rfl,⋯,⋯,?_⟩;rw[Int.toNat_natCast];refine qG (λi Y D=>eD λ(O:N3)=>kb (Y=[↥a,O]) (H=D) (∀k x,k<i->o[k]?=some x->¬hZ m x)) ⟨_,rfl,rfl,λk x h=>ub h (Nat.not_lt_zero _)⟩ ?_ ?_
  .rintro i Y D hi ⟨O,rfl,rfl,N⟩;let⟨x,di,ex,G,g⟩:=C0 r (i:=i) ⋯;exists ez (cJ.of e) (Rm.jS ex) ?_;have nx:¬hZ m di->∀k x,k<i+1->o[k]?=some x->¬hZ m x:=λh k x hk l=>by
    by_cases c:k=i
    .subst c;rw[G]at l;cases l;exact h
    .exact N k x ⋯ l
   rcases f di (vm G)with⟨n,rfl⟩ | rfl | C
   .cases g;refine⟨_,_,_,_,rfl,.int _,Fv,?_⟩;exists gq ?_;ac_nf;exact⟨_,rfl,rfl,nx λh=>by let⟨es,z⟩:=h.tup;cases z⟩
   .cases g;refine⟨_,_,_,_,rfl,.de,wo,?_⟩;exists gq ?_;ac_nf;exact⟨_,rfl,rfl,nx λh=>by let⟨es,z⟩:=h.tup;cases z⟩
   .let⟨es,rfl⟩:=C.tup;cases g with
    | tup p S=>
    rename_i b ys;refine⟨_,_,_,_,rfl,.tup p,xL,?_⟩;exists eB ?_;exists⟨a,xs,rfl,e,λR H1 s1 e1=>?_⟩;rw[ut,CW ⋯]at e1;exists ez (cJ.of (s1 _ _ e)) (Rm.jS ex) ?_;exists⟨.ref b,_,rfl,(DV.tup p S).mono s1,.inr C,λv2 Z H2 B F X M=>?_⟩;exists⟨ua,?_⟩;sleep 3;exists⟨R,p3,_,_,rfl,rfl,s3 _ _ (B _ _ e1),t3,by rw[vi];show _+1<=_;lia,λr4 H4 s4 e4=>?_⟩;have y:=s1.trans (B.trans (s3.trans s4));exists⟨a,xs,rfl,y _ _ e,λr5 H5 W e5=>?_⟩;rw[show 0+(i:Int)+1=((i+1:Nat):Int) by lia,K7 ⋯]at e5;exists⟨r4,r5,_,_,rfl,rfl,W _ _ e4,e5,by rw[vn,vi,length_drop];show _+1+_<=_;lia,λr6 H6 s6 e6=>?_⟩;have j:=y.trans (W.trans s6);have U:=s3.trans (s4.trans (W.trans s6));exists q (.ref r6) (.tuple (o.take i++[Z]++o.drop (i+1))) H6 j (.tup e6 ?_) (cU.tup (DN sh X)) ?_
    .exact Ki ((WQ _ r).mono j) (Ki (.cons (F.mono U) .nil) ((WR _ r).mono j))
    .rw[PyData.eqv];exact Qc G (En Z ⋯) M
  rintro Y D ⟨O,rfl,rfl,N⟩;rcases hk with⟨x,J,C⟩ | ⟨n,rs,rfl⟩
  .let⟨k,l⟩:=List.getElem?_of_mem J;exact ub C (N k x (by have:=(vx.mp l).1;lia) l)
  .cases r with
   | cons a1 R=>
   cases a1;rename_i xr;exists ez (cJ.of e) (iV) ?_;exists⟨ua,?_⟩;sleep 1;exists⟨a,_,rfl,s1 _ _ e,λS H2 B p=>?_⟩;rw[show(1:Int)=((1:Nat):Int)from rfl,K7 (by show 1<=_+1;lia)]at p;ac_nf;rw[vQ]at xl L;refine⟨p1,S,_,_,rfl,rfl,B _ _ t1,p,by show 1+⇑xr<=_;rw[vQ]at xl;lia,λr3 H3 s3 e3=>?_⟩;have u:=s1.trans (B.trans s3);exists q (.ref r3) (.tuple (.int (n+1)::rs)) H3 u (.tup e3 (.cons (.int _) (R.mono u))) (cU.tup λx f=>?_) ?_
   .rcases mem_cons.mp f with rfl | f
    .exact cU.int.mono (va _)
    .exact sh x (vp _ f)
   .rw[PyData.eqv];refine Qc (i:=0) rfl rfl ?_;rw[PyData.eqv];exact beq_eq_false_iff_ne.mpr ⋯
def xa(T:Txt K mg t)(zB:62<*t.QH t.QJ ["_law_pins"] (eC 61)):63<*t.ZZ t.Z1 ["_law_kept","_law_way","_law_beats","_law_far"] (g8):=by
 specialize T.ko.F.ok qc;let⟨kt,F,kv,m,y,gs,hs,z,f,X,B,rfl,ek,S,hl,l1,l8,J,N,Y,t2,w1,w2,f1,f2,q⟩:=h;refine⟨_,(jb (yP (pv 0) (JG rfl (jB (cW 4 qc.nd) (jB (cW 5 qc.nd) (jB (cW 6 qc.nd) Jl)))))
  (jb (jP (jt Ya (pv 1) jd (cg _))
   (jf (jx (jH (ja (jo jz (jO (ja (jr jR (pv 4) jd) (ja (jr qP (pv 4) jd) (ja (jr qP (kr Z8 jd) (pv 3)) (ja (jr jR (jr jR (pv 2) jd) (pv 3)) jc))))) (pv 1)) (ja (pv 5) (ja (pv 6) jc))))))
   jw)
  (jb (cM 7 qc.nd (jr j3 (pv 3) (jE jY (by rfl) T.JZ Jp (ja (pv 5) jc))))
  (jb (jP (jt Ya (pv 1) jd (cg _))
   (jb (cM 8 qc.nd (jr qP (jr jR (jo jv (pv 5) (pv 7)) (jr Q0 jd (jr j3 (pv 1) jd))) jd))
   (jf (jx (jH (ja (pv 4) (ja (jr Kx (jr Kx (qR KE (pv 5) Q1 (Qe (pv 7))) (jH (ja (pv 8) jc))) (qR KE (pv 5) (Qe (jr jR (pv 7) jd)) Q1)) (ja (pv 6) jc)))))))
   jw)
  (jb (jP (jt Jb (pv 1) jd (cg _))
   (jf (jx (jH (ja (pv 4) (ja (Jn qt (by rfl) T.yG zU (ja (pv 5) jc)) (ja (pv 6) jc))))))
   jw)
  (jb (jP (jt Jb (pv 1) jd (cg _))
   (jf (jx (jH (ja (pv 4) (ja (pv 5) (ja (jH (ja (pv 6) jc)) jc))))))
   jw)
  (jb (jP (PW.pt (Q3 (jt Jb (pv 1) jd (cg _)) (Qv (jt DG (pv 6) wB (cg _)))))
   (jf (jx (jH (ja (pv 4) (ja (pv 5) (ja wB jc))))))
   jw)
  (jf (jx (jH (ja (pv 4) (ja (pv 5) (ja (jq T.QF zB hr (ja (pv 6) jc)) jc))))))))))))),?_⟩
 rotate_right 405
 have W:=N.s.w;have G:=CC (gs:=gs) (E:=z) (t:=f) W N.ne;have pp:=xg (E:=z) N Y;have U:cU 62 (.tuple ((cQ m y gs z f).map PyData.int)):=Cm _;have dh:∀{O:Hp},cj H O->DV O (.ref F) (.tuple ((cQ m y gs z f).map PyData.int)):=λs=>.tup (s _ _ S) (Y2 _)
 have g:∀{a b c:PyData},cU 62 a->cU 62 b->cU 62 c->cU 63 (.tuple [a,b,c]):=λha hb hc=>cU.tup (forall_mem_cons.mpr ⟨ha,forall_mem_cons.mpr ⟨hb,forall_mem_cons.mpr ⟨hc,λ_ h=>nomatch h⟩⟩⟩)
 have C:∀i:Int,cU 62 (.int i):=λi=>cU.int.mono (va _)
 exists Eo (cJ.of ek) ?_;exists cH (λc=>?_) (λc=>?_)
 .exists⟨uC,?_⟩;walk_at"f 1 e";ac_nf;obtain⟨M,en,hn⟩:∃M:Int,ft [V.int (f+1),.int (f-1),.int (-1-B),.int (gs∘(⇑y-1)+1+B)] X= ~~~M/\(M≠f\/M<0\/gs∘(⇑y-1)<M):=by
   rcases(show X=0\/X=1\/X=2\/X=3 by lia)with rfl | rfl | rfl | rfl
   .exact⟨_,rfl,.inl ⋯⟩
   .exact⟨_,rfl,.inl ⋯⟩
   .exact⟨_,rfl,.inr (.inl ⋯)⟩
   .exact⟨_,rfl,.inr (.inr ⋯)⟩
  refine cE (cm.of e1) (en) ?_;exists⟨uB,?_⟩;walk_at"f 2 e";have l:=s1.trans s2;exists q p2 M (.ref F) kv _ H2 l e2 (.tup e2 (.cons (.int _) (.cons (dh l) (.cons (J.mono l) .nil)))) (g (C _) U (G.mono nofun)) ?_;by_cases h0:M<0
  .exact .inl h0
  .by_cases h1:gs∘(⇑y-1)<M
   .exact .inr (.inl h1)
   .refine .inr (.inr ⟨⋯,⋯,?_⟩);unfold eV;rw[PyData.eqv];exact Qc (i:=2) rfl rfl (LW N ⋯ ⋯ Y t2 ⋯)
 exists⟨_,_,rfl,.inr ⟨_,cJ.of S,rfl⟩,?_⟩;rw[vt,hl];ac_nf;obtain⟨k,ka,kl⟩:∃k:Nat,B%(⇑m:Int)=(k:Int)/\k<⇑m:=by
  have a:=ve B (show(⇑m:Int)≠0 by lia);have b:=vf B (show 0<(⇑m:Int) by lia);exact⟨(B%(⇑m:Int)).toNat,⋯,⋯⟩
 rw[ka];exists cH (λc6=>?_) (λc6=>?_)
 .obtain⟨h,a0⟩:∃h,(cQ m y gs z f)[k]?=some h:=⟨_,vz ⋯⟩
  have em:((cQ m y gs z f).map V.int)[k]?= ~~~h:=by rw[vv,a0];rfl
  have a2:((cQ m y gs z f).map PyData.int)[k]?= ~~~h:=by rw[vv,a0];rfl
  have lm:⇑((cQ m y gs z f).map V.int)=⇑m:=by rw[vt];exact hl
  have ld:⇑((cQ m y gs z f).map PyData.int)=⇑m:=by rw[vt];exact hl
  have R:fW H ((cQ m y gs z f).map V.int) ((cQ m y gs z f).map PyData.int):=Y2 _;have a3:∀x∈(cQ m y gs z f).map PyData.int,cU 61 x:=λx hx=>by
   let⟨i,_,rfl⟩:=vK.mp hx;exact cU.int.mono (va _)
  generalize(cQ m y gs z f).map V.int=hV at S em lm R;exists ez (cJ.of S) (jS (j:=k) em) ?_;ac_nf;have L:h≠h+2*(X%2)-1:=⋯
  generalize h+2*(X%2)-1=o at L;refine⟨F,hV,rfl,S,λr1 H1 s1 e1=>?_⟩;rw[CW ⋯]at e1;exists⟨ua,?_⟩;walk_at"f 2 e";exists⟨r1,p2,_,_,rfl,rfl,s2 _ _ e1,e2,by rw[vi];show _+1<=_;lia,λr3 H3 s3 e3=>?_⟩;have a1:=s1.trans (s2.trans s3);exists⟨F,hV,rfl,a1 _ _ S,λr4 H4 s4 e4=>?_⟩;rw[show(k:Int)+1=((k+1:Nat):Int) by lia,K7 ⋯]at e4;exists⟨r3,r4,_,_,rfl,rfl,s4 _ _ e3,e4,by rw[vn,vi,length_drop];show _+1+_<=_;lia,λr5 H5 s5 e5=>?_⟩;exists⟨uB,?_⟩;walk_at"f 6 e";have I:=a1.trans (s4.trans (s5.trans s6));exists q p6 f (.ref r5) kv _ H6 I e6 (.tup e6 (.cons (.int _) (.cons (.tup (s6 _ _ e5) (Ki ((WQ _ R).mono I) (Ki (.cons (.int o) .nil) ((WR _ R).mono I)))) (.cons (J.mono I) .nil)))) (g (C _) (cU.tup (DN a3 (cU.int.mono (va _)))) (G.mono nofun)) (.inr (.inr ⟨Y,t2,?_⟩));unfold eV;rw[PyData.eqv];refine Qc (i:=1) rfl rfl ?_;rw[PyData.eqv];refine Qc a2 (En _ ⋯) ?_;rw[PyData.eqv];exact beq_eq_false_iff_ne.mpr L
 exists cH (λc7=>?_) (λc7=>?_)
 .exists⟨F,_,rfl,.inr (cJ.of S),?_⟩;walk_at"f 1 e";exists⟨uB,?_⟩;walk_at"f 2 e";have l:=s1.trans s2;exists q p2 f (.ref p1) kv _ H2 l e2 (.tup e2 (.cons (.int _) (.cons (.lst (s2 _ _ e1) (Y2 _)) (.cons (J.mono l) .nil)))) (g (C _) (GL _) (G.mono nofun)) (.inr (.inr ⟨Y,t2,?_⟩));unfold eV;rw[PyData.eqv];exact Qc (i:=1) rfl rfl (by rw[PyData.eqv])
 exists cH (λc8=>?_) (λc8=>?_)
 .exists⟨ua,?_⟩;walk_at"f 1 e";exists⟨uB,?_⟩;walk_at"f 2 e";have l:=s1.trans s2;exists q p2 f (.ref F) (.ref p1) _ H2 l e2 (.tup e2 (.cons (.int _) (.cons (dh l) (.cons (.tup (s2 _ _ e1) (.cons (J.mono l) .nil)) .nil)))) (g (C _) U (cU.tup λx hx=>by rw[vo.mp hx];exact G)) (.inr (.inr ⟨Y,t2,?_⟩));unfold eV;rw[PyData.eqv];exact Qc (i:=2) rfl rfl (Hs pp)
 have D:∀(v:V) (d:PyData) (O:Hp),cj H O->DV O v d->cU 61 d->PyData.eqv (eF m y gs z f) d=false->∀p,O p=none->Q (.ref p) (upd O p (.tup [.int f,.ref F,v])):=λv d H1 s1 dv sh L p hp=>by
  have s2:cj H1 (upd H1 p (.tup [.int f,.ref F,v])):=λc u h=>(jg (je h hp)).trans h
  have e2:upd H1 p (.tup [.int f,.ref F,v]) p=some (.tup [.int f,.ref F,v]):=jA;refine q p f (.ref F) v _ _ (s1.trans s2) e2 (.tup e2 (.cons (.int _) (.cons (dh (s1.trans s2)) (.cons (dv.mono s2) .nil)))) (g (C _) U (sh.mono nofun)) (.inr (.inr ⟨Y,t2,?_⟩));unfold eV;rw[PyData.eqv];exact Qc (i:=2) rfl rfl L
 have n:(3:Nat)<=sizeLine:=⋯
 exists cH (λc9=>?_) (λc9=>?_)
 .ac_nf;rcases pp with pn | ph
  .rw[pn]at J;cases J;refine⟨rfl,_,rfl,?_⟩;refine eN rfl ?_;exists⟨.de,.none,rfl,.de,.inl ⟨rfl,by decide⟩,λr d' H1 s1 dv sh L=>?_⟩;ac_nf;exact⟨n,D r d' H1 s1 dv sh (by rw[pn];exact L)⟩
  .let⟨ds,e⟩:=ph.tup;have Z:=J;rw[e]at Z;cases Z with
   | tup e1 r1=>
   refine⟨rfl,_,rfl,?_⟩;refine i7 rfl ?_;ac_nf;exact⟨n,D .de .none H (cj.refl _) .de cU.none (by rw[e,PyData.eqv])⟩
 .exists gq ?_;exists⟨kv,_,rfl,J,pp.imp (λh=>⟨h,by decide⟩) id,λr d' H1 s1 dv sh L=>?_⟩;ac_nf;exact⟨n,D r d' H1 s1 dv sh L⟩
def Wd(T:Txt K mg t)(D:10<*t.zi t.zl ["box","kept"] (eR t.jy t.jD))(a:dO P w K mg base (iq P w) 10 t.zi t.zl ["box","kept"] (wV t.jy t.jD t.jX)):11<*t.Zi t.Zm ["_law_box","_law_kept"] (fS):=by
 specialize T.Yf.F.ok Qw;let⟨j,o,l,f,U,kv,p,k,ls,X,R,S,B,t0,F,rfl,O,M,Z,J,I,z,N,L,G,m,Y,oE,g,q⟩:=h;refine⟨_,(jb (cM 2 Qw.nd wB)
  (jb (Md (i:=3) ⟨rfl,rfl,rfl,rfl⟩ Qw.nd rfl rfl (by rfl) T.E8
   (jf (jV (jq T.Q9 D hr (ja (pv 0) (ja (pv 1) jc)))))
   (Zv (C6 (Lp (a.mono nofun) hr (by rfl) T.Q9.m T.Q9.F.kp T.Q9.B .nil ⟨rfl,rfl,rfl,rfl⟩ (ja (pv 0) (ja (pv 1) jc)))))
   (λ_=>(jf (cM 2 Qw.nd (pv 3)))))
  (jb (jP (PW.pt (Bh (wD (jE K2 (by rfl) T.qZ qE (ja (pv 2) (ja (jH (ja (qy (v:=.ref t.Kc) (by rfl) T.HZ rfl) (ja (qy (v:=.ref t.WD) (by rfl) T.Lj rfl) (ja (qy (v:=.ref t.WE) (by rfl) T.Lk rfl) (ja (qy (v:=.ref t.WF) (by rfl) T.LI rfl) jc))))) jc)))) (AJ (wD (jE K2 (by rfl) T.qZ qE (ja (pv 2) (ja (jH (ja (qy (v:=.ref t.Yq) (by rfl) T.G1 rfl) (ja (qy (v:=.ref t.Yr) (by rfl) T.G2 rfl) (ja (qy (v:=.ref t.Yt) (by rfl) T.G3 rfl) (ja (qy (v:=.ref t.jZ) (by rfl) T.wv rfl) jc))))) jc)))))))
   (jf (jx YI))
   jw)
  (jb (jP (wD (jE K2 (by rfl) T.qZ qE (ja (pv 2) (ja (jH (ja (qy (v:=.ref t.Ke) (by rfl) T.Ia rfl) (ja (qy (v:=.ref t.yc) (by rfl) T.Gf rfl) (ja (qy (v:=.ref t.Zl) (by rfl) T.FE rfl) jc)))) jc))))
   (jf (jx YI))
   jw)
  (jf (jx (Mu (jE Xk (by rfl) T.qZ qE (ja (pv 2) (ja (qy (v:=.ref t.jX) (by rfl) T.wx rfl) jc))) (Mv (jE Xk (by rfl) T.qZ qE (ja (pv 2) (ja (DH (v:=.ty "ValueError") (by rfl) T.XY xI rfl) jc))))))))))),?_⟩
 rotate_right 202
 exists⟨λS' r=>gC λ(x:Addr) (d:Option Addr)=>eS (S'=[↥j,↥o,↥x,none]) (cj H r/\r x=some (oH (.ref t.jX) x d)),?_,?_⟩
 .refine Lo ?_;refine EI (IU ?_);exists⟨j,o,l,f,U,kv,p,k,ls,X,R,S,B,t0,F,rfl,O,M,Z,J,I,z,N,L,G,m,Y,oE,g,λd C e=>⟨T.JA,λx W=>?_⟩⟩;refine jC (S':=[↥j,↥o,some .de,↥x]) rfl ?_
  try dsimp only[dJ,Cx.iw]
  ac_nf;exact⟨x,d,rfl,λc u h=>(jg (je (e _ _ h) W)).trans (e _ _ h),jA⟩
 rintro S' C ⟨x,d,rfl,e,h⟩;exists⟨uC,?_⟩;sleep 2;exists⟨x,t.jX,p2,d,[t.Kc,t.WD,t.WE,t.WF],false,rfl,s2 _ _ h,T.yz,t2,uL λc b=>?_,?_⟩
 .simp only[map_cons,map_nil,mem_cons,List.not_mem_nil,or_false]at b;rcases b with rfl | rfl | rfl | rfl
  .exact T.qB
  .exact T.qU
  .exact T.qV
  .exact T.qW
 exists gq ?_;exists⟨uC,?_⟩;sleep 3;have y:=s3 _ _ (s2 _ _ h);exists⟨x,t.jX,p3,d,[t.Yq,t.Yr,t.Yt,t.jZ],false,rfl,y,T.yz,t3,uL λc b=>?_,?_⟩
 .simp only[map_cons,map_nil,mem_cons,List.not_mem_nil,or_false]at b;rcases b with rfl | rfl | rfl | rfl
  .exact T.qf
  .exact T.qg
  .exact T.qh
  .exact T.qd
 exists gq ?_;exists⟨uB,?_⟩;sleep 4;have n:=s4 _ _ y;exists⟨x,t.jX,p4,d,[t.Ke,t.yc,t.Zl],false,rfl,n,T.yz,t4,uL λc b=>?_,?_⟩
 .simp only[map_cons,map_nil,mem_cons,List.not_mem_nil,or_false]at b;rcases b with rfl | rfl | rfl
  .exact T.qC
  .exact T.JT
  .exact T.JI
 exists gq ?_;exists DP n T.yz T.qi ⟨_,rfl,eB ?_⟩;ac_nf;exact DP n T.yz T.Ju (q _ (e.trans (s2.trans (s3.trans s4))))
def Ku(T:Txt K mg t)(Jt:3<*t.qD t.qF ["self","beat"] (fk t.jD)):4<*t.qY t.Qb ["self","beat"] (hF t.jD):=by
 specialize T.KK.ok JP;let⟨a,z,ls,j,gs,hs,E,t0,rfl,A,N,t1,t2,q⟩:=h;refine⟨_,(jb (cM 2 JP.nd (jO jc))
  (jb (Jd PassesOwn.never rfl (Ja (jo jv (ZR (pv 0) T.jU T.Zs (Jt.mono nofun) hr T.ZV .nil cZ (ja (pv 1) jc)) jd)) (JG rfl (jB (cW 3 JP.nd) (jB (cW 4 JP.nd) Jl)))
   (jb (cM 5 JP.nd (jo jz (Jk (pv 0) rfl) (pv 3)))
   (jf (jP (PW.pt (Q3 (jt Jb (jo jv (pv 5) jd) jI (cg _)) (Qv (jt Jb (pv 4) jd (cg _)))))
    (jf (jV (qa q5 q7 iA jT (pv 2) (ja (jo jv (pv 5) jd) jc))))
    jw))))
  (jf (jx (pv 2))))),?_⟩
 rotate_right 204
 let⟨dx,ob⟩:=A.ob;exists⟨va _,?_⟩;walk_at"f p1 hp1 H0 s0 e0";exists⟨a,dx,_,rfl,s0 _ _ ob,WU ∅ ∅ ∅ ∅ ∅ ∅,?_⟩;exists⟨a,z,ls,j,gs,hs,E,t0,rfl,A.same s0,N,t1,t2,λr l1 l2 as P H1 s1 a0 I C M ll hb h2 a1 gP pl bP hP _=>?_⟩;have F:=Fy N hP;have J:=s0.trans s1;have e1:=s1 _ _ e0;have m1:∀{c u},H c=some u->c≠p1:=λh=>je h hp1
 have n2:l2≠p1:=λe=>by rw[e,e0]at I;cases I
 have al:=gP.1;have wl:∀xs:L3,⇑(xs.flatMap (dZ j))<=⇑xs:=λxs=>by
  induction xs with
  | nil=>exact vb _
  | cons x r ih=>
   rw[flatMap_cons,vn,vQ];have:⇑(dZ j x)<=1:=by
    unfold dZ;split
    .split<;>simp
    .exact va _
   lia
 exists cz C ?_;refine⟨l2,rfl,⟨_,cm.of h2⟩,?_⟩;refine J2 (xs:=as.map V.ref) (λi σ m=>iX λ(O R S:N3)=>eS (σ=[↥a,~~~t0,↥p1,O,R,S]) ((∀c u,c≠p1->H1 c=some u->m c=some u)/\m p1=some (.lst (((P.take i).flatMap (dZ j)).map V.str))))
  ⟨_,_,_,rfl,λc u _ h=>h,e1⟩ ?_ ?_ ?_
 .rintro i σ m _ ⟨O,R,S,rfl,o,B⟩;exact cm.of (o _ _ n2 h2)
 .rintro i v σ m hv ⟨O,R,S,rfl,o,B⟩;let⟨c,x,rfl,Y,D⟩:=gP.cR hv;have hi:=(vx.mp Y).1;let⟨x1,x0,x2⟩:=bP x (vm Y);obtain⟨p,X⟩:∃p,j[x.1]?=some p:=⟨_,vz x1⟩
  let⟨W,U,hf⟩:=A.fo.get X;have l:(P.take (i+1)).flatMap (dZ j)=(P.take i).flatMap (dZ j)++dZ j x:=by
   rw[take_snoc Y,flatMap_append,flatMap_cons,List.flatMap_nil,append_nil]
  have n3:∀{c u},H c=some u->m c=some u:=λh=>o _ _ (m1 h) (J _ _ h)
  have nc:c≠p1:=λz=>by rw[z,e1]at D;cases D
  have g:cu m W p.2:=cu.put (λb xs hb=>n3 hb) hf;refine qH (cJ.of (o _ _ nc D)) ?_;exists⟨a,_,dx,_,_,rfl,n3 ob,T.jU,T.JV,Y4,?_⟩;exists cE (cm.of (n3 A.ho)) (ZI (i:=(x.1:Int)) ⋯ U) ?_;ac_nf;by_cases d:∃y n,p.2 = .ring y n
  .let⟨y,n,C⟩:=d;rw[C]at g;have G:m W=some (.tup [.str "ring",.str y,.int n]):=g;have L:dZ j x=if x.2=0 then[y]else[]:=by
    unfold dZ;rw[X];let⟨pn,pf⟩:=p;have C:pf = .ring y n:=C;subst C;rfl
   refine cz G ?_;exists cY ?_;exists cH (λc=>?_) (λc=>?_)
   .exists⟨.inl ⟨rfl,_,cm.of B⟩,?_⟩;exists cz G ?_;have:=wl (P.take i);rw[vi]at this;refine⟨p1,_,_,rfl,rfl,B,by rw[vt];lia,?_⟩;refine⟨_,_,_,rfl,λc u D h=>(jg D).trans (o _ _ D h),jA.trans ?_⟩;rw[l,L,vd c,vj];rfl
   .exists⟨_,_,_,rfl,o,?_⟩;rw[l,L,vc c,append_nil];exact B
  .have L:dZ j x=[]:=by
    unfold dZ;rw[X];let⟨pn,pf⟩:=p;cases pf with
    | ring y n=>exact ub ⟨y,n,rfl⟩ d
    | _=>rfl
   have Z:∃k xs,m W=some (.tup (.str k::xs))/\decide (k=("ring" : Str))=false:=by
    generalize p.2=f at g d;cases f with
    | hold n=>exact⟨_,_,g,by trivial⟩
    | ring y n=>exact ub ⟨y,n,rfl⟩ d
    | rise y v n=>exact⟨_,_,g,by trivial⟩
    | row j=>let⟨b',M,_⟩:=g;exact⟨_,_,M,by trivial⟩
    | side j=>let⟨b',M,_⟩:=g;exact⟨_,_,M,by trivial⟩
    | again k y=>exact⟨_,_,g,by trivial⟩
   let⟨k,xs,hk,dk⟩:=Z;refine ez (cJ.of hk) (iV) ?_;exists eN dk ?_;exists⟨_,_,_,rfl,o,?_⟩;rw[l,L,append_nil];exact B
 rintro S' m ⟨O,R,S,rfl,o,B⟩;rw[vt,al,v8,F]at B;ac_nf;have w1:=wl P;rw[F]at w1;exact q p1 m (λc u h=>o _ _ (m1 h) (J _ _ h)) hp1 B ⋯
def Wb(T:Txt K mg t)(I:4<*t.qY t.Qb ["self","beat"] (hF t.jD)):5<*t.QS t.QV ["self"] (iP t.jy t.jD):=by
 specialize T.Wy.ok Wg;let⟨m,j,z,p,r,o,F,E,k,rfl,A,N,J,L,q⟩:=h;refine⟨_,(jb (jP (jt Jb (Jk (pv 0) rfl) (Jk (pv 0) rfl) (cg _))
   (jf Zu)
   jw)
  (jb (Hi (pv 0) jd MZ)
  (jf (jx (ZR (Jk (pv 0) rfl) T.jU T.Kr (I.mono nofun) hr T.KI .nil cZ (ja (Jk (pv 0) rfl) jc)))))),?_⟩
 rotate_right 100
 let⟨a,b⟩:=A.ob;exists⟨m,_,a,_,_,rfl,b,T.jG,T.Jf,ye,?_⟩;exists⟨m,_,a,_,_,rfl,b,T.jG,T.J3,wg,?_⟩;exists cH (λc=>ub c ⋯) (λZ=>?_);exists⟨_,rfl,m,_,a,_,_,rfl,b,T.jG,T.Jf,ye,k,1,rfl,rfl,a,_,b,(by show 3<1000;decide),?_⟩;rw[Ca];generalize g:upd H m _=H1;have d:=Qn g;have i:∀c u,c≠m->H c=some u->H1 c=some u:=λc u n h=>g▸(jg n).trans h
 have C:∀c,H1 c=none->H c=none:=λc h=>by
  by_cases z:c=m
  .rw[z,d]at h;cases h
  .cases e:H c with
   | none=>rfl
   | some u=>rw[i c u z e]at h;cases h
 clear g;have f:dU t.jy t.jD H1 m j z p r o E (k+1):=⟨⟨a,d⟩,A.sg.but b A.ne i,A.ne⟩
 let⟨y,G⟩:=f.sg.ob;exists⟨m,_,a,_,_,rfl,d,T.jG,T.Jx,kG,?_⟩;refine⟨j,y,_,rfl,G,WU ∅ ∅ ∅ ∅ ∅ ∅,?_⟩;exists⟨m,_,a,_,_,rfl,d,T.jG,T.Jf,ye,?_⟩;ac_nf;exact⟨j,z,p,r,o,F,E,k+1,rfl,f.sg,N,⋯,⋯,λl x v D B Z=>q l x (λc u n h=>v _ _ (i _ _ n h)) (C l D) (f.same v) B⟩
def xM(T:Txt K mg t)(QP:5<*t.QS t.QV ["self"] (iP t.jy t.jD))(x:6<*t.JC t.JE ["self"] (fj t.jy t.jD)):7<*t.yE t.yI ["_law_one","_law_other","_law_many"] (gW t.jy t.jD):=by
 specialize T.kY.F.ok kx;let⟨m,o,D,F,z,y,g,e,gs,r,b,f,n0,rfl,A,O,mo,ms,os,N,t1,n3,t2,hW,q⟩:=h;refine⟨_,(jb (jP (jt (YG hr.units) (qQ (pv 0) T.jG T.Jw (x.mono nofun) hr T.JB .nil cZ) (qQ (pv 1) T.jG T.Jw (x.mono nofun) hr T.JB .nil cZ) (cg _))
   (jf (jx YI))
   jw)
  (jb (Jd PassesOwn.never rfl (JK (by rfl) T.qJ (ja (pv 2) jc)) (cW 3 kx.nd)
   (jf (jP (PW.pt (Bh (jt (YG hr.units) (qQ (pv 0) T.jG T.y9 (QP.mono nofun) hr T.Yd .nil cZ) (qQ (pv 1) T.jG T.y9 (QP.mono nofun) hr T.Yd .nil cZ) (cg _)) (AJ (jt (YG hr.units) (qQ (pv 0) T.jG T.Jw (x.mono nofun) hr T.JB .nil cZ) (qQ (pv 1) T.jG T.Jw (x.mono nofun) hr T.JB .nil cZ) (cg _)))))
    (jf (jx YI))
    jw)))
  (jf (jx YI)))),?_⟩
 rotate_right 301
 have W:=N.s.w;have a:=λu:Int=>W3 (gs:=gs) (E:=b) (t:=u) W N.ne
 let⟨X,B⟩:=A.ob;exists⟨m,X,_,rfl,B,qw ∅ ∅ ∅,?_⟩;refine⟨m,D,z,g,e,gs,r,b,f,rfl,A,N,t1,⋯,λr1 l1 v1 H1 s1 a1 b1 c1 d1=>?_⟩;have L:=O.same s1;let⟨R,a4⟩:=L.ob;exists⟨o,R,_,rfl,a4,qw ∅ ∅ ∅,?_⟩;refine⟨o,F,y,g,e,gs,r,b,f,rfl,L,N,t1,⋯,λr2 l2 v2 H2 s2 a2 b2 c2 d2=>?_⟩;exists⟨_,_,(yL a1 b1 d1).mono s2,yL a2 b2 d2,(a _).ok nofun,(a _).ok nofun,?_⟩;rw[SeqAt.eqv_refl _ (a _).1];exists gq ?_;exists⟨_,rfl,⋯,⋯,?_⟩;rw[Int.toNat_natCast];have v:=s1.trans s2;refine qG (λi σ p=>eD λ(o3:N3)=>kb (σ=[↥m,↥o,~~~n0,o3]) (∀c u,c≠m->c≠o->H c=some u->p c=some u) (dU t.jy t.jD p m D z g e gs b (f+i)/\dU t.jy t.jD p o F y g e gs b (f+i)))
  ⟨_,rfl,λc u _ _ h=>v _ _ h,by rw[Int.natCast_zero,Int.add_zero];exact A.same v,by rw[Int.natCast_zero,Int.add_zero];exact L.same s2⟩ ?_ ?_
 .rintro i σ p hi ⟨o3,rfl,k,G,J⟩;let⟨X,B⟩:=G.ob;exists⟨m,X,_,rfl,B,qw ∅ ∅ ∅,?_⟩;refine⟨m,D,z,g,e,gs,r,b,f+i,rfl,G,N,⋯,⋯,λl3 H3 k3 a8 A3 Z=>?_⟩;have O3:=J.but B (Ne.symm mo) ms k3;let⟨S,j⟩:=O3.ob;exists⟨o,S,_,rfl,j,qw ∅ ∅ ∅,?_⟩;refine⟨o,F,y,g,e,gs,r,b,f+i,rfl,O3,N,⋯,⋯,λl4 H4 k4 a9 O4 e4=>?_⟩;have I:=A3.but j mo os k4;have a0:l3≠o:=λz=>by rw[z,j]at Z;cases Z
  have l:cU 2 (.list ((eW e gs (f+i+1)).map PyData.str)):=cU.lst (n:=1) λd hd=>by
   let⟨n,hn,rfl⟩:=vK.mp hd;exact Cn (xs:=[_]) (λy hy=>by rw[vo.mp hy];exact hW _ n hn) _ (vo.mpr rfl)
  exists⟨_,_,DV.lst (k4 _ _ a0 Z) (zX _),DV.lst e4 (zX _),l.ok nofun,l.ok nofun,?_⟩;rw[SeqAt.eqv_refl _ l.1];exists gq ?_;let⟨Y,a3⟩:=I.ob;exists⟨m,Y,_,rfl,a3,qw ∅ ∅ ∅,?_⟩;refine⟨m,D,z,g,e,gs,r,b,f+i+1,rfl,I,N,⋯,⋯,λr5 l5 v5 H5 s5 a5 b5 c5 d5=>?_⟩;have M:=O4.same s5;let⟨U,a7⟩:=M.ob;exists⟨o,U,_,rfl,a7,qw ∅ ∅ ∅,?_⟩;refine⟨o,F,y,g,e,gs,r,b,f+i+1,rfl,M,N,⋯,⋯,λr6 l6 v6 H6 C a6 b6 c6 d6=>?_⟩;exists⟨_,_,(yL a5 b5 d5).mono C,yL a6 b6 d6,(a _).ok nofun,(a _).ok nofun,?_⟩;rw[SeqAt.eqv_refl _ (a _).1];exists gq ?_;exists⟨_,rfl,λc u n1 n2 h=>C _ _ (s5 _ _ (k4 _ _ n2 (k3 _ _ n1 (k _ _ n1 n2 h)))),?_,?_⟩
  .rw[Int.natCast_succ,<-Int.add_assoc];exact(I.same s5).same C
  .rw[Int.natCast_succ,<-Int.add_assoc];exact M.same C
 rintro σ p ⟨o3,rfl,k,G,J⟩;ac_nf;exact q p k ⟨_,J⟩
def Ni(T:Txt K mg t)(XN:3<*t.XQ t.X4 ["book"] (iJ))(j2:8<*t.Jc t.Jr ["self","box"] (fi t.jy t.jD))(Ji:1<*t.j5 t.j7 ["self","beat"] (fR t.jy t.jD))(jN:6<*t.JC t.JE ["self"] (fj t.jy t.jD))(Zb:10<*t.zi t.zl ["box","kept"] (eR t.jy t.jD))(jL:1<*t.JD t.JF ["_law_script","_law_k"] (Pr.dR K))(jM:1<*t.JM t.JN ["_law_cell","_law_k"] (kc))(zQ:2<*t.yF t.yJ ["_law_script","_law_j","_law_k"] (gY K))(Yh:6<*t.Yn t.Yy ["_law_script","_law_many","_law_bounds"] (fM K))(ZX:63<*t.ZZ t.Z1 ["_law_kept","_law_way","_law_beats","_law_far"] (g8))(Zh:11<*t.Zi t.Zm ["_law_box","_law_kept"] (fS))(yC:7<*t.yE t.yI ["_law_one","_law_other","_law_many"] (gW t.jy t.jD)):64<*t.tu t.sj ["_law_script"] (Pr.g4 K):=by
 specialize T.A4.F.ok QD;let⟨a,o,rfl,hS,a0,hB,q⟩:=h;refine⟨_,(jb (cM 1 QD.nd (jE (Gz rfl) (by rfl) T.A9 Az (ja jd (ja (jE (YZ rfl) (by rfl) T.uS X0 (ja (jr qP (jE jY (by rfl) T.JZ Jp (ja (pv 0) jc)) jd) (ja jd jc))) jc))))
  (jb (yP (jq T.wL Yh hr (ja (pv 0) (ja (pv 1) (ja (jO (ja jd (ja (jr zN jd jd) (ja (jr jR (jr zN jd jd) jd) (ja (jr zN jd jd) (ja (jr zN jd jd) jc)))))) jc)))) (JG rfl (jB (cW 2 QD.nd) (jB (cW 3 QD.nd) Jl))))
  (jb (cM 4 QD.nd (jq T.CQ XN hr (ja (pv 2) jc)))
  (jb (cM 5 QD.nd (Wm T.KU (j2.mono nofun) hr (by rfl) T.kK T.Qz .nil cZ (ja (pv 4) jc)))
  (jb (cM 6 QD.nd (jO (ja jd (ja (pv 3) jc))))
  (jb (Jd PassesOwn.never rfl (JK (by rfl) T.qJ (ja jd jc)) (cW 7 QD.nd)
   (jf (jV (qa q5 q7 iA jT (pv 6) (ja (jr j3 (jq T.yA zQ hr (ja (pv 0) (ja (jr jR jd (pv 7)) (ja (jr jR jd (pv 7)) jc)))) (jr jR (pv 3) jd)) jc)))))
  (jb (Jd PassesOwn.never rfl (JK (by rfl) T.qJ (ja jd jc)) (cW 7 QD.nd)
   (jb (cM 8 QD.nd (jo jz (pv 6) (pv 7)))
   (jb (jV (ZR (pv 5) T.jG T.Qt (Ji.mono nofun) hr T.QM .nil cZ (ja (pv 8) jc)))
   (jb (cM 9 QD.nd (qQ (pv 5) T.jG T.Jw (jN.mono nofun) hr T.JB .nil cZ))
   (jb (cM 10 QD.nd (jr j3 (jq T.yA zQ hr (ja (pv 0) (ja (jr jR jd (pv 7)) (ja jd jc)))) jd))
   (jb (cM 11 QD.nd (jq T.Js jM hr (ja (jq T.Jh jL hr (ja (pv 0) (ja (pv 7) jc))) (ja jd jc))))
   (jb (jP (xt (wD (jq T.Yf Zh hr (ja (pv 4) (ja (jq T.ko ZX hr (ja (pv 9) (ja (pv 10) (ja (pv 3) (ja (pv 11) jc))))) jc)))))
    (jf (jx YI))
    jw)
   (jb (cM 12 QD.nd (jH (ja (Jn qt (by rfl) T.yG zU (ja (jo jv (pv 4) jd) jc)) (ja (Jn qt (by rfl) T.yG zU (ja (jo jv (pv 4) jd) jc)) jc))))
   (jb (cM 13 QD.nd (jq T.Q9 Zb hr (ja (pv 12) (ja (pv 9) jc))))
   (jb (jV (uQ q5 PySem.F.slot_list_clear PySem.F.type_list_clear Cy (jo jv (pv 12) jd)))
   (jb (jV (uQ q5 PySem.F.slot_list_clear PySem.F.type_list_clear Cy (jo jv (pv 12) jd)))
   (jf (jP (xt (wD (jq T.kY yC hr (ja (pv 13) (ja (pv 5) (ja (jE (YZ rfl) (by rfl) T.uS X0 (ja jd (ja (jr qP (pv 3) (pv 8)) jc))) jc))))))
    (jf (jx YI))
    jw)))))))))))))
  (jf (jx YI))))))))),?_⟩
 rotate_right 113
 exists⟨_,_,rfl,.inl ⟨_,hS,rfl⟩,?_⟩;rw[vt];exists⟨_,_,rfl,?_⟩;exists⟨_,_,rfl,?_⟩;obtain⟨f,em,b2,ay⟩:∃f:Nat,(if(2:Int)<(if(16:Int)<(⇑o:Int)-1 then 16 else(⇑o:Int)-1)then(if(16:Int)<(⇑o:Int)-1 then 16 else(⇑o:Int)-1)else 2)=(f:Int)/\2<=f/\f<=16:=by
  refine⟨(if(2:Int)<(if(16:Int)<(⇑o:Int)-1 then 16 else(⇑o:Int)-1)then(if(16:Int)<(⇑o:Int)-1 then 16 else(⇑o:Int)-1)else 2).toNat,?_,?_,?_⟩<;>(split<;>split<;>lia)
 rw[em];exists⟨(by show 5<=sizeLine;lia),?_⟩;walk_at"f bd hbd H1 s1 t1";exists⟨a,bd,o,f,30,10^18,10^18+1,10^18,10^60,rfl,s1.seq hS,a0,b2,ay,⟨t1,by decide,by decide,by decide,by decide,by decide,by decide,by decide,by decide,by decide,by decide⟩,λr b pl pp a2 b5 l y fs M gs H2 s2 ar Bk D N fl nL nd nW l1 l8 bk lW bm gb=>?_⟩;clear em;have b7:=s1.trans s2;have dl:⇑(cA l fs)=⇑fs:=zm;have W:=N.s.w;have bo:=D.vZ l8 N.Bl lW nW ⋯ ⋯;have O:=Ai W ⋯;have gp:=D.g (⇑fs-1) ⋯;generalize eL:gs∘(⇑fs-1)=L at gp ar;refine qH (cJ.of ar) ?_;exists⟨b,pl,pp,a2,b5,y,_,rfl,Bk,W,⋯,λtb lb fb a6 ms H3 s3 et el ef _ _ _ dr Kd=>?_⟩;have a5:=Bk.same s3;have Bx:=Du O l8 Kd;have Wq:=NG Bx W.ln;have Cr:=MQ W ⋯ Kd;have kl:⇑(cX (cP y (cA l fs)) ms)=⇑ms:=W2 _ _;let⟨⟨c,aW,aX⟩,_⟩:=Kd.named O;have qe:⇑(eM y (cX (cP y (cA l fs)) ms))=⇑ms:=(yH _ _).trans kl;let⟨U,hq,Nq,aV⟩:=MR N Cr ⋯ Wq;have hW:∀B:Int,∀x∈eW (eM y (cX (cP y (cA l fs)) ms)) U B,Ws.fG x=true:=λB=>M4 bo
 clear Cr kl aW aX qe Kd;generalize cX (cP y (cA l fs)) ms=kk at *;ac_nf;intro m dm hm aY bl;have s4:cj H3 (upd (upd H3 dm (.own m)) m (.ins t.jy dm [])):=λc u h=>(jg (je h hm)).trans ((jg (je h aY)).trans h)
 refine⟨m,dm,tb,lb,fb,a2,a6,y,kk,U,hq,rfl,jA,s4 _ _ et,s4 _ _ el,a5.la.mono λb x h=>s4 _ _ h,s4 _ _ ef,cn.mono dr λa d h=>h.same s4,Bx,Nq,λst z E H5 k5 aZ A5 _=>⟨rfl,?_⟩⟩;have ai:cj H3 H5:=λc u h=>k5 _ _ (je h hm) (s4 _ _ h)
 have be:=a5.same ai;have af:=b7.trans s3;have b8:=af.trans ai;have lq:U∘(⇑(eM y kk)-1)=L:=by rw[aV,dl,eL]
 have bj:∀j k:Int,0<=dP (Pr.cell o j) k*dP (Pr.cell o (j+1)) (k+20)/\dP (Pr.cell o j) k*dP (Pr.cell o (j+1)) (k+20)<=10^70:=λj k=>by
  have u1:=QZ (Pr.cell o j) k;have u2:=QZ (Pr.cell o (j+1)) (k+20);have h:dP (Pr.cell o j) k*dP (Pr.cell o (j+1)) (k+20)<=(10^30+57)*(10^30+57):=Int.mul_le_mul ⋯ ⋯ u2.1 nofun;exact⟨Int.mul_nonneg u1.1 u2.1,Int.le_trans h nofun⟩
 exists⟨uA,?_⟩;walk_at"f sm hsm H6 s6 t6";exists⟨3,rfl,by decide,by decide,?_⟩;refine qG (λi σ R=>gC λ(o7:N3) (xs:L5)=>nC (σ=[↥a,~~~f,↥b,~~~L,↥tb,↥m,↥sm,o7,none,none,none,none,none,none]) (cj H5 R) (R sm=some (.lst (xs.map V.int))) (⇑xs=i+2) (∀x∈xs,0<=x/\x<=L))
  ⟨_,[0,L],rfl,s6,t6,rfl,λx hx=>by rcases mem_cons.mp hx with rfl | hx;exact⟨vA _,⋯⟩;rw[vo.mp hx];lia⟩ ?_ ?_
 .rintro i σ R hi ⟨o7,xs,rfl,sk,Y,xl,hx⟩;have hi:i<3:=hi;exists⟨.inl ⟨rfl,_,cm.of Y⟩,?_⟩;exists⟨a,o,_,_,rfl,(b8.trans sk).seq hS,a0,⋯,⋯,⋯,⋯,?_⟩;exists⟨sm,_,_,rfl,rfl,Y,by rw[vt];lia,?_⟩;generalize dP _ _*dP _ _=g;have g0:=ve g (show L+1≠0 by lia);have g1:=vf g (show 0<L+1 by lia);refine⟨_,xs++[g%(L+1)],rfl,Ws.IZ sk hsm,by rw[jA,vj];rfl,by rw[vn,xl];rfl,λx b0=>?_⟩;rcases vh.mp b0 with h | h
  .exact hx x h
  .rw[vo.mp h];lia
 rintro σ H7 ⟨o7,xs,rfl,ak,Y,xl,hx⟩;have xl:⇑xs=5:=xl;let⟨bh,aD⟩:=A5.ob;have aC:sm≠m:=Ne.symm (je aD hsm);have A7:=A5.same ak;have aE:=A5.sg.el;have oE:=A5.sg.eo;have aH:=ai.trans ak;clear A5 k5 aZ s6 t6 s4 aD;exists⟨5,rfl,by decide,by decide,?_⟩;refine qG (λi σ R=>nD λ(o7 o8 o9 ab ac ad ae:N3) (u:Int)=>kb (σ=[↥a,~~~f,↥b,~~~L,↥tb,↥m,↥sm,o7,o8,o9,ab,ac,ad,ae]) (cj H3 R) (R sm=some (.lst (xs.map V.int))/\dU t.jy t.jD R m st z y (eM y kk) U E u))
  ⟨_,_,_,_,_,_,_,0,rfl,aH,Y,A7⟩ ?_ ?_
 .clear A7 Y aH ak;rintro i σ R hi ⟨o7,o8,o9,ab,ac,ad,ae,u,rfl,sk,Y,A7⟩;have hi:i<5:=hi;obtain⟨B,ap⟩:∃B,xs[i]?=some B:=⟨_,vz ⋯⟩
  let⟨h0,h1⟩:=hx B (vm ap);have Z:B<=U∘(⇑(eM y kk)-1):=by rw[lq];exact h1
  exists cE (cm.of Y) (Rm.jS (x:=.int B) (by rw[vv,ap];rfl)) ?_;let⟨dx,ob⟩:=A7.ob;exists⟨m,dx,_,rfl,ob,qw ∅ ∅ ∅,?_⟩;exists⟨m,st,z,y,_,U,E,u,B,rfl,A7,h0,Z,λH8 k8 A8=>?_⟩;have ba:cj H3 H8:=λc x h=>k8 _ _ (je h hm) (sk _ _ h)
  have e8:=k8 _ _ aC Y;let⟨aT,aF⟩:=A8.ob;exists⟨m,aT,_,rfl,aF,qw ∅ ∅ ∅,?_⟩;refine⟨m,st,z,y,_,U,hq,E,B,rfl,A8,Nq,h0,Z,λr9 l9 v9 H9 s9 a9 b9 c9 d9=>?_⟩;have aj:=ba.trans s9;exists⟨a,o,_,_,rfl,(af.trans aj).seq hS,a0,⋯,⋯,⋯,⋯,?_⟩;generalize dP _ _*dP _ _=g;have w0:=ve g (show(10:Int)≠0 by decide);have w1:=vf g (show(0:Int)<10 by decide);ac_nf;generalize g%10=w at w0 w1;refine⟨a,o,_,rfl,(af.trans aj).seq hS,a0,⋯,?_⟩;exists⟨_,_,rfl,by decide,by decide,?_⟩;have aq:=QZ (Pr.cell o (0+(i:Int))) 95;generalize dP (Pr.cell o (0+(i:Int))) 95=far at aq;exists⟨r9,l9,v9,y,_,U,hq,E,B,w,far,(by rw[lq];rfl),a9,b9,c9,l1,l8,d9,Nq,h0,Z,w0,w1,aq.1,⋯,λb6 tn hv pv aS bf ag aU am aJ aR=>?_⟩;have p:=aj.trans ag;have aw:=λ{R:Hp} (s:cj H3 R)=>a5.la.mono λb x h=>s _ _ h
  exists⟨tb,b6,lb,fb,hv,pv,a2,a6,y,kk,U,hq,E,tn,aS,rfl,p _ _ et,p _ _ el,aw p,p _ _ ef,cn.mono dr λa d h=>h.same p,Bx,Nq,aU,am,aJ,aE,oE,aR,λaP ah=>?_⟩;have v:=p.trans ah;have F:=s9.trans (ag.trans ah);have aI:=ag.trans ah;exists gq ?_;exists cz (v _ _ et) ?_;exists⟨lb,_,rfl,.inl (cm.of (v _ _ el)),?_⟩;walk_at"f 12 e";exists cz (s12 _ _ (v _ _ et)) ?_;exists⟨fb,_,rfl,.inl (cm.of (s12 _ _ (v _ _ ef))),?_⟩;walk_at"f 13 e";exists⟨uA,?_⟩;walk_at"f 14 e";have e:=s12.trans (s13.trans s14);have X:=v.trans e;have C:=s14 _ _ (s13 _ _ e12);have S:=s14 _ _ e13;have a4:=aI.trans e;exists⟨p14,r9,p12,p13,l9,v9,a2,a6,y,kk,U,hq,E,B,rfl,e14,C,aw X,S,cn.mono dr λa d h=>h.same X,Bx,Nq,a4 _ _ a9,(yL a9 b9 d9).mono a4,aE,oE,h0,Z,λm2 aK z2 al J a7 as aL aB=>?_⟩;exists cz (J _ _ e14) ?_;exists⟨.inl ⟨rfl,_,cm.of (J _ _ C)⟩,p12,_,rfl,rfl,J _ _ C,?_⟩;generalize an:upd al p12 _=H16;have a1:∀c x,c≠p12->al c=some x->H16 c=some x:=λc x n h=>an▸(jg n).trans h
  clear an;have aM:=aL.uF aB C (J _ _ C) a1;have aa:p14≠p12:=λz=>by rw[z,s14 _ _ (s13 _ _ e12)]at e14;cases e14
  have b3:p14≠p13:=λz=>by rw[z,s14 _ _ e13]at e14;cases e14
  have a8:p13≠p12:=Ne.symm (je e12 hp13);exists cz (a1 _ _ aa (J _ _ e14)) ?_;ac_nf;have G:=a1 _ _ a8 (J _ _ S);refine⟨.inl ⟨rfl,_,cm.of G⟩,p13,_,rfl,rfl,G,?_⟩;generalize ao:upd H16 p13 _=H17;have au:∀c x,c≠p13->H16 c=some x->H17 c=some x:=λc x n h=>ao▸(jg n).trans h
  clear ao;have aN:=aM.uF aB S G au;have I:cj aP H17:=λc x h=>au _ _ (je (s12 _ _ h) hp13) (a1 _ _ (je h hp12) (J _ _ (e _ _ h)))
  have aQ:=A8.same (F.trans I);have a3:=e _ _ (F _ _ aF);let⟨bi,b4⟩:=A8.sg.ob;have aG:=e _ _ (F _ _ b4);have b1:m2≠m:=Ne.symm (je a3 a7);have ax:m2≠st:=Ne.symm (je aG a7);have az:m≠aK:=je a3 as;exists⟨_,_,rfl,?_⟩;obtain⟨n,en,n3,nL⟩:∃n:Nat,(if L-B<3 then L-B else 3)=(n:Int)/\n<=3/\B+n<=L:=by
   refine⟨(if L-B<3 then L-B else 3).toNat,?_,?_,?_⟩<;>(split<;>lia)
  rw[en];exists⟨m2,m,aK,st,z2,z,y,_,U,hq,E,B,n,rfl,aN,aQ,b1,ax,az,Nq,h0,n3,by rw[lq];exact nL,hW,λbg av bb=>?_⟩;let⟨u',aO⟩:=bb;exists gq ?_;ac_nf;have aA:∀{c:Addr} {x:HO},H14 c=some x->c≠m2:=λh=>je h a7
  exact⟨_,_,_,_,_,_,_,u',rfl,λc x h=>av _ _ (aA (X _ _ h)) (je h hm) (I _ _ (v _ _ h)),av _ _ (aA (e _ _ (F _ _ e8))) aC (I _ _ (F _ _ e8)),aO⟩
 rintro σ R ⟨o7,o8,o9,ab,ac,ad,ae,u,rfl,sk,Y,bc⟩;ac_nf;exact q _
def Iv(T:Txt K mg t):64<*t.tu t.sj ["_law_script"] (Pr.g4 K):=by
 have g:1<*t.QI t.QK _ _:=Fg T;have d:1<*t.qr t.qv _ _:=xU T;have k:=LR T d g;have y:1<*t.Zj t.Zn _ _:=FI T;have C:=Gh T y;have R:=HC T g k C;have F:1<*t.YY t.Y0 _ _:=Gj T;have B:=Gg T g F;have o:=HD T d y;have p:=LQ T d o;have S:=HE T p;have yD:1<*t.zT t.zW _ _:=xT T;have X:1<*t.ZG t.ZN _ _:=Fh T;have D:=Gi T o S yD X;have Y:1<*t.ZH t.ZO _ _:=Fi T;have Z:=Fj T o Y;have za:=Kt T d p D Z;have m:=kg T B za;have i:1<*t.j5 t.j7 _ _:=wY T;have a:dO P w K mg base (iq P w) 1 t.j5 t.j7 _ _:=wy T;have l:1<*t.XU t.X7 _ _:=LS T;have z:1<*t.Zk t.Zo _ _:=FJ T;have O:=He T z;have j:=W8 T O;have J:=kh T l j;have L:=kM T J;have I:=Gm T z;have G:=Gk T j I;have Zg:=Wa T G;have f:=wZ T L Zg;have r:=Gn T m i f;have b:dO P w K mg base (iq P w) 10 t.zi t.zl _ _:=FH T m i f a;have e:1<*t.JD t.JF _ _:=Wc T;have c:1<*t.JM t.JN _ _:=xO T;have zQ:=xN T e c;have x:1<*t.zF t.zK _ _:=Ff T;have N:1<*t.zS t.zV _ _:=xS T;have W:=Fb T N;have v:1<*t.zD t.zI _ _:=Fd T;have u:1<*t.QT t.QW _ _:=xR T;have q:1<*t.zC t.zH _ _:=Fc T;have n:=Fe T c;have ZW:=W9 T n;have zd:=Kw T n ZW;have zc:=Kv T e c x v u q n zd;have U:=E9 T e c x W v u q zc;have zB:62<*t.QH t.QJ ["_law_pins"] (eC 61):=(by(iterate 61 refine jh T ?_);exact WC T);have ZX:=xa T zB;have Zh:=Wd T r b;have zb:=Ku T j;have M:=Wb T zb;have yC:=xM T M f;exact Ni T R m i f r e c zQ U ZX Zh yC
theorem fin{P:Program}{w:World}{K:cG}{mg:Nw}{base:Heap}{t:Ad}(T:Txt K mg t):dO P w K mg base oZ 64 t.tu t.sj ["_law_script"] (Pr.g4 K):=by
 refine Classical.byContradiction λh=>?_
 have z:=Classical.epsilon_spec (p:=λb=>¬gB b) ⟨⟨P,w,K,mg,base,t⟩,λz=>h (z T)⟩
 rw[show Classical.epsilon (λb=>¬gB b)=cB by unfold cB;rfl]at z
 exact z (λT=>Iv T)
end
@[elab_as_elim] theorem uu1{P:L9->Prop}(us:L9)(hl:⇑us=1)(h:∀a0,P [a0]):P us:=by
 cases us with
 | nil=>cases hl
 | cons a r=>cases r with
  | nil=>exact h a
  | cons b s=>cases hl
def lN{K:cG}{x q:Str}{st:Stmt}{f:Addr}{k:FuncData}{l:Str}(F:fA K x q st f k)(h:∀(kV j o:Value) (an:Option Addr) (i m:Value) (a0:Value),bindArgs (W.fnOf x q (ec st) (dM st) (cf st) .none kV j o an i m) ⟨[a0],[]⟩=pure ([l].zip [a0]):=by intros;rfl):Binds K k [l] []:=F.binds λa b c d e g p n=>uu1 p n (h a b c d e g)
@[elab_as_elim] theorem uu2{P:L9->Prop}(us:L9)(hl:⇑us=2)(h:∀a0 a1,P [a0,a1]):P us:=by
 cases us with
 | nil=>cases hl
 | cons a r=>exact @uu1 (λr=>P (a::r)) r (Nat.succ.inj hl) (h a)
def lO{K:cG}{x q:Str}{st:Stmt}{f:Addr}{l:FuncData}{m n:Str}(F:fA K x q st f l)(h:∀(kV j r:Value) (an:Option Addr) (i o:Value) (a0 k:Value),bindArgs (W.fnOf x q (ec st) (dM st) (cf st) .none kV j r an i o) ⟨[a0,k],[]⟩=pure ([m,n].zip [a0,k]):=by intros;rfl):Binds K l [m,n] []:=F.binds λa b c d e g s p=>uu2 s p (h a b c d e g)
@[elab_as_elim] theorem uu3{P:L9->Prop}(us:L9)(hl:⇑us=3)(h:∀a0 a1 a2,P [a0,a1,a2]):P us:=by
 cases us with
 | nil=>cases hl
 | cons a r=>exact @uu2 (λr=>P (a::r)) r (Nat.succ.inj hl) (h a)
def nI{K:cG}{x q:Str}{st:Stmt}{f:Addr}{m:FuncData}{n o p:Str}(F:fA K x q st f m)(h:∀(kV j t:Value) (an:Option Addr) (i r:Value) (a0 k l:Value),bindArgs (W.fnOf x q (ec st) (dM st) (cf st) .none kV j t an i r) ⟨[a0,k,l],[]⟩=pure ([n,o,p].zip [a0,k,l]):=by intros;rfl):Binds K m [n,o,p] []:=F.binds λa b c d e g u s=>uu3 u s (h a b c d e g)
@[elab_as_elim] theorem uu4{P:L9->Prop}(us:L9)(hl:⇑us=4)(h:∀a0 a1 a2 a3,P [a0,a1,a2,a3]):P us:=by
 cases us with
 | nil=>cases hl
 | cons a r=>exact @uu3 (λr=>P (a::r)) r (Nat.succ.inj hl) (h a)
def vX{K:cG}{x q:Str}{st:Stmt}{f:Addr}{n:FuncData}{o p r s:Str}(F:fA K x q st f n)(h:∀(kV j v:Value) (an:Option Addr) (i t:Value) (a0 k l m:Value),bindArgs (W.fnOf x q (ec st) (dM st) (cf st) .none kV j v an i t) ⟨[a0,k,l,m],[]⟩=pure ([o,p,r,s].zip [a0,k,l,m]):=by intros;rfl):Binds K n [o,p,r,s] []:=F.binds λa b c d e g w u=>uu4 w u (h a b c d e g)
@[elab_as_elim] theorem uu5{P:L9->Prop}(us:L9)(hl:⇑us=5)(h:∀a0 a1 a2 a3 a4,P [a0,a1,a2,a3,a4]):P us:=by
 cases us with
 | nil=>cases hl
 | cons a r=>exact @uu4 (λr=>P (a::r)) r (Nat.succ.inj hl) (h a)
def uE{K:cG}{x q:Str}{st:Stmt}{f:Addr}{o:FuncData}{p r s t u:Str}(F:fA K x q st f o)(h:∀(kV j y:Value) (an:Option Addr) (i v:Value) (a0 k l m n:Value),bindArgs (W.fnOf x q (ec st) (dM st) (cf st) .none kV j y an i v) ⟨[a0,k,l,m,n],[]⟩=pure ([p,r,s,t,u].zip [a0,k,l,m,n]):=by intros;rfl):Binds K o [p,r,s,t,u] []:=F.binds λa b c d e g z w=>uu5 z w (h a b c d e g)
abbrev Ng(K:cG)(x:Str)(f:Addr):Prop:=W.nsIn K mainGlobals x=some (some (.ref f))
abbrev N0(K:cG)(x:Str):Prop:=W.nsIn K mainGlobals x=some none
abbrev Nn(K:cG)(C:Addr)(x:Str):Prop:=W.findIn K (.ref C) x=some none
abbrev Nx(K:cG)(C:Addr)(x:Str)(f:Addr):Prop:=W.findIn K (.ref C) x=some (some (.ref f))
abbrev fc(K:cG)(x:Str)(st:Stmt)(f:Addr)(d:FuncData):Prop:=fA K x x st f d
set_option autoImplicit true in
def ML{K:cG}{h:Heap}{mg:Nw}(X:K.In h)(G:h.Ns mainGlobals mg)
  {c:Addr}
  (y:Ng K "Machine" c) (D:W.plainGet K c Str.empty=true) (A:W.hasDictIn K c=true) (E:W.plainOver K c=true) (F:W.findIn K (.ref c) "__setattr__"= some (some (.builtin "object.__setattr__"))) (C:W.makesIn K c=true) (B:W.keepIn K (.ref c)=true) (Jx:Nn K c "stage") (J3:Nn K c "last") (Jf:Nn K c "now")
  {d:Addr}
  (ae:Ng K "Stage" d) (ak:W.plainGet K d Str.empty=true) (ah:W.hasDictIn K d=true) (al:W.plainOver K d=true) (am:W.findIn K (.ref d) "__setattr__"= some (some (.builtin "object.__setattr__"))) (aj:W.makesIn K d=true) (ai:W.keepIn K (.ref d)=true) (Qq:Nn K d "limbs") (zu:Nn K d "first") (JV:Nn K d "forms") (Jg:Nn K d "sizes") (zY:Nn K d "left") (qO:Nn K d "pieces")
  (a1:Ng K "numbers_of" f1) (F1:fc K "numbers_of" yW f1 d1)
  (a2:Ng K "names_in" f2) (F2:fc K "names_in" kR f2 d2)
  (a3:Ng K "form_with" f3) (F3:fc K "form_with" ZS f3 d3)
  (a4:Ng K "made" f4) (F4:fc K "made" AN f4 d4)
  (a5:Ng K "come_to" f5) (F5:fc K "come_to" wE f5 d5)
  (a6:Ng K "drums" f6) (F6:fc K "drums" Wp f6 d6)
  (a7:Ng K "name_of" f7) (F7:fc K "name_of" wF f7 d7)
  (a8:Ng K "book_of" f8) (F8:fc K "book_of" Zd f8 d8)
  (a9:Ng K "inner" f9) (F9:fc K "inner" Wr f9 d9)
  (bc:Ng K "ends" f10) (aC:fc K "ends" AM f10 d10)
  (bd:Ng K "moved" f11) (aD:fc K "moved" Wt f11 d11)
  (be:Ng K "check_side" f12) (aE:fc K "check_side" Za f12 d12)
  (bf:Ng K "length_of" f13) (aF:fc K "length_of" YU f13 d13)
  (bg:Ng K "lengths" f14) (aG:fc K "lengths" yt f14 d14)
  (bh:Ng K "ramp" f15) (aH:fc K "ramp" AO f15 d15)
  (bi:Ng K "pieces_in" f16) (aI:fc K "pieces_in" YV f16 d16)
  (bj:Ng K "pieces_of" f17) (aJ:fc K "pieces_of" ZT f17 d17)
  (bk:Ng K "progress" f18) (aK:fc K "progress" kS f18 d18)
  (bl:Ng K "within" f19) (aL:fc K "within" xw f19 d19)
  (b8:Nx K d "__init__" f20) (ba:W.isFn K (.ref f20)=true) (aq:fA K "__init__" "Stage.__init__" qb f20 d20)
  (bm:Nx K d "scene" f21) (bS:W.isFn K (.ref f21)=true) (ar:fA K "scene" "Stage.scene" Z5 f21 d21)
  (bn:Nx K d "heights_at" f22) (bT:W.isFn K (.ref f22)=true) (as:fA K "heights_at" "Stage.heights_at" QC f22 d22)
  (bo:Nx K d "words_at" f23) (bU:W.isFn K (.ref f23)=true) (au:fA K "words_at" "Stage.words_at" zo f23 d23)
  (bp:Ng K "pins_of" f24) (aM:fc K "pins_of" yu f24 d24)
  (bq:Ng K "pins_at" f25) (aN:fc K "pins_at" wG f25 d25)
  (b9:Nx K c "__init__" f26) (bb:W.isFn K (.ref f26)=true) (av:fA K "__init__" "Machine.__init__" QB f26 d26)
  (br:Nx K c "step" f27) (bV:W.isFn K (.ref f27)=true) (aw:fA K "step" "Machine.step" ZA f27 d27)
  (bs:Nx K c "jump" f28) (bW:W.isFn K (.ref f28)=true) (ax:fA K "jump" "Machine.jump" Zx f28 d28)
  (bt:Nx K c "beat" f29) (bX:W.isFn K (.ref f29)=true) (ay:fA K "beat" "Machine.beat" Zw f29 d29)
  (bu:Nx K c "heights" f30) (bY:W.isFn K (.ref f30)=true) (az:fA K "heights" "Machine.heights" Q4 f30 d30)
  (bv:Nx K c "pins" f31) (bZ:W.isFn K (.ref f31)=true) (aA:fA K "pins" "Machine.pins" Zz f31 d31)
  (bw:Nx K c "kept" f32) (c0:W.isFn K (.ref f32)=true) (aB:fA K "kept" "Machine.kept" Zy f32 d32)
  (bx:Ng K "resumed" f33) (aO:fc K "resumed" wH f33 d33)
  (bz:Ng K "_law_cell_at" f34) (aP:fc K "_law_cell_at" ZB f34 d34)
  (bA:Ng K "_law_mixed" f35) (aQ:fc K "_law_mixed" yU f35 d35)
  (bB:Ng K "_law_great" f36) (aR:fc K "_law_great" yT f36 d36)
  (bC:Ng K "_law_word" f37) (aS:fc K "_law_word" YT f37 d37)
  (bD:Ng K "_law_named" f38) (aT:fc K "_law_named" zZ f38 d38)
  (bE:Ng K "_law_form" f39) (aU:fc K "_law_form" YO f39 d39)
  (bF:Ng K "_law_long" f40) (aV:fc K "_law_long" zL f40 d40)
  (bG:Ng K "_law_moves" f41) (aW:fc K "_law_moves" yV f41 d41)
  (bH:Ng K "_law_last" f42) (aX:fc K "_law_last" YQ f42 d42)
  (bI:Ng K "_law_take" f43) (aY:fc K "_law_take" YS f43 d43)
  (bJ:Ng K "_law_naming" f44) (aZ:fc K "_law_naming" Qr f44 d44)
  (bK:Ng K "_law_form_told" f45) (b0:fc K "_law_form_told" zq f45 d45)
  (bL:Ng K "_law_book_told" f46) (b1:fc K "_law_book_told" zp f46 d46)
  (bM:Ng K "_law_book" f47) (b2:fc K "_law_book" YM f47 d47)
  (bN:Ng K "_law_more" f48) (b3:fc K "_law_more" YR f48 d48)
  (bO:Ng K "_law_spoilt" f49) (b4:fc K "_law_spoilt" Z6 f49 d49)
  (bP:Ng K "_law_refused" f50) (b5:fc K "_law_refused" ZC f50 d50)
  (bQ:Ng K "_law_alike" f51) (b6:fc K "_law_alike" yS f51 d51)
  (bR:Ng K "law" f52) (b7:fc K "law" Bi f52 d52)
  {w:Tok}
  (ad:W.nsIn K mainGlobals "FIGURES"= some (some (.str "abcdefghijklmnopqrstuvwxyz" w)))
  {Qg:Addr}
  (s:Ng K "MOST_NAMES" Qg) (kk_MOST_NAMES:rn K Qg [("row",.flat (.int 8)),("side",.flat (.int 4))])
  {a:Addr}
  {b:Addr}
  {f:Addr}
  {l:Addr}
  {k:Addr}
  {j:Addr}
  {q:Addr}
  {p:Addr}
  {o:Addr}
  {m:Addr}
  {g:Addr}
  {i:Addr}
  {n:Addr}
  (Z:Ng K "NoBeat" a)
  (ac:Ng K "NoPins" b)
  (r:Ng K "PlayError" f)
  (ab:Ng K "NoName" l)
  (aa:Ng K "NoLimb" k)
  (a0:Ng K "NoBook" j)
  (ap:Ng K "Long" q)
  (ao:Ng K "Idle" p)
  (an:Ng K "Done" o)
  (af:Ng K "Broad" m)
  (u:Ng K "TwoHands" g)
  (z:Ng K "TooLong" i)
  (ag:Ng K "NoRow" n)
  (yx:W.excIn K a [.type "ValueError",.type "Exception",.type "BaseException",.type "object"] "ValueError.__new__"= true)
  (N:W.findIn K (.ref a) "__getattribute__"= some (some (.builtin "BaseException.__getattribute__")))
  (S:Nn K a "__getattr__")
  (J:W.findIn K (.ref a) "__class__"= some (some (.builtin "object.__class__")))
  (H:W.subIn K (.ref a) (.type "BaseException")=some true)
  (U:W.subIn K (.ref a) (.type "object")=some true)
  (Q:W.isClsIn K a=true)
  (J0:W.exmOne K (.ref a) (.ref f)=some true)
  (qj:W.exmOne K (.ref a) (.ref a)=some true)
  (Qh:W.kitOne K (.ref a) (.ref a)=some true)
  (Qk:W.kitOne K (.ref a) (.ref l)=some false)
  (Qj:W.kitOne K (.ref a) (.ref k)=some false)
  (Qi:W.kitOne K (.ref a) (.ref j)=some false)
  (Q8:W.kitOne K (.ref a) (.ref q)=some false)
  (Q7:W.kitOne K (.ref a) (.ref p)=some false)
  (Q6:W.kitOne K (.ref a) (.ref o)=some false)
  (Qx:W.kitOne K (.ref a) (.ref m)=some false)
  (qA:W.kitOne K (.ref a) (.ref g)=some false)
  (qL:W.kitOne K (.ref a) (.ref i)=some false)
  (Qy:W.kitOne K (.ref a) (.ref n)=some false)
  (JS:W.kitOne K (.ref a) (.type "ValueError")=some true)
  (Ql:W.kitOne K (.ref a) (.ref b)=some false)
  (Zf:W.excIn K b [.type "ValueError",.type "Exception",.type "BaseException",.type "object"] "ValueError.__new__"= true)
  (P:W.findIn K (.ref b) "__getattribute__"= some (some (.builtin "BaseException.__getattribute__")))
  (T:Nn K b "__getattr__")
  (L:W.findIn K (.ref b) "__class__"= some (some (.builtin "object.__class__")))
  (I:W.subIn K (.ref b) (.type "BaseException")=some true)
  (Y:W.subIn K (.ref b) (.type "object")=some true)
  (R:W.isClsIn K b=true)
  (JA:W.exmOne K (.ref b) (.ref f)=some true)
  (Qm:W.exmOne K (.ref b) (.ref a)=some false)
  (qd:W.kitOne K (.ref b) (.ref a)=some false)
  (qh:W.kitOne K (.ref b) (.ref l)=some false)
  (qg:W.kitOne K (.ref b) (.ref k)=some false)
  (qf:W.kitOne K (.ref b) (.ref j)=some false)
  (qW:W.kitOne K (.ref b) (.ref q)=some false)
  (qV:W.kitOne K (.ref b) (.ref p)=some false)
  (qU:W.kitOne K (.ref b) (.ref o)=some false)
  (qB:W.kitOne K (.ref b) (.ref m)=some false)
  (JI:W.kitOne K (.ref b) (.ref g)=some false)
  (JT:W.kitOne K (.ref b) (.ref i)=some false)
  (qC:W.kitOne K (.ref b) (.ref n)=some false)
  (Ju:W.kitOne K (.ref b) (.type "ValueError")=some true)
  (qi:W.kitOne K (.ref b) (.ref b)=some true)
  (z0:N0 K "ValueError") (z1:N0 K "abs") (z2:N0 K "dict") (z3:N0 K "enumerate") (z4:N0 K "isinstance") (z5:N0 K "len") (z6:N0 K "list") (z7:N0 K "max") (z8:N0 K "min") (z9:N0 K "range") (c1:N0 K "reversed") (c2:N0 K "sorted") (c3:N0 K "sum") (c4:N0 K "tuple") (c5:N0 K "zip") :
  ∃t:Ad,Txt K mg t:=by
 have M:∀{x v},W.nsIn K mainGlobals x=some (some v)->mg x=some v:=λe=>W.mg_of X G e
 have O:∀{x},N0 K x->mg x=none:=λe=>W.mg_none_of X G e
 exact⟨⟨f1,_,f2,_,f3,_,f4,_,f5,_,f6,_,f7,_,f8,_,f9,_,f10,_,f11,_,f12,_,f13,_,f14,_,f15,_,f16,_,f17,_,f18,_,f19,_,f20,_,f21,_,f22,_,f23,_,f24,_,f25,_,f26,_,f27,_,f28,_,f29,_,f30,_,f31,_,f32,_,f33,_,f34,_,f35,_,f36,_,f37,_,f38,_,f39,_,f40,_,f41,_,f42,_,f43,_,f44,_,f45,_,f46,_,f47,_,f48,_,f49,_,f50,_,f51,_,f52,_,d,c,a,b,f,l,k,j,q,p,o,m,g,i,n,_,_⟩,⟨⟨F1,M a1,lN F1⟩,⟨F2,M a2,lN F2⟩,⟨F3,M a3,nI F3⟩,⟨F4,M a4,lN F4⟩,⟨F5,M a5,lO F5⟩,⟨F6,M a6,lN F6⟩,⟨F7,M a7,lN F7⟩,⟨F8,M a8,lN F8⟩,⟨F9,M a9,lN F9⟩,⟨aC,M bc,lN aC⟩,⟨aD,M bd,lN aD⟩,⟨aE,M be,nI aE⟩,⟨aF,M bf,lO aF⟩,⟨aG,M bg,lN aG⟩,⟨aH,M bh,vX aH⟩,⟨aI,M bi,nI aI⟩,⟨aJ,M bj,lO aJ⟩,⟨aK,M bk,nI aK⟩,⟨aL,M bl,nI aL⟩,aq,⟨b8,ba,aq.kp⟩,lO aq,ar,⟨bm,bS,ar.kp⟩,lO ar,as,⟨bn,bT,as.kp⟩,lO as,au,⟨bo,bU,au.kp⟩,lO au,⟨aM,M bp,uE aM⟩,⟨aN,M bq,lO aN⟩,av,⟨b9,bb,av.kp⟩,lO av,aw,⟨br,bV,aw.kp⟩,lN aw,ax,⟨bs,bW,ax.kp⟩,lO ax,ay,⟨bt,bX,ay.kp⟩,lN ay,az,⟨bu,bY,az.kp⟩,lN az,aA,⟨bv,bZ,aA.kp⟩,lN aA,aB,⟨bw,c0,aB.kp⟩,lN aB,⟨aO,M bx,lO aO⟩,⟨aP,M bz,lO aP⟩,⟨aQ,M bA,lO aQ⟩,⟨aR,M bB,nI aR⟩,⟨aS,M bC,lO aS⟩,⟨aT,M bD,vX aT⟩,⟨aU,M bE,uE aU⟩,⟨aV,M bF,lO aV⟩,⟨aW,M bG,nI aW⟩,⟨aX,M bH,nI aX⟩,⟨aY,M bI,lO aY⟩,⟨aZ,M bJ,uE aZ⟩,⟨b0,M bK,uE b0⟩,⟨b1,M bL,nI b1⟩,⟨b2,M bM,nI b2⟩,⟨b3,M bN,lN b3⟩,⟨b4,M bO,vX b4⟩,⟨b5,M bP,lO b5⟩,⟨b6,M bQ,nI b6⟩,⟨b7,M bR,lN b7⟩,⟨ak,ah,al,am⟩,⟨aj,b8,ba,ai⟩,M ae,Qq,zu,JV,Jg,zY,qO,⟨D,A,E,F⟩,⟨C,b9,bb,B⟩,M y,Jx,J3,Jf,M Z,M ac,M r,M ab,M aa,M a0,M ap,M ao,M an,M af,M u,M z,M ag,yx,⟨N,S,J,H,U,Q⟩,J0,qj,Qh,Qk,Qj,Qi,Q8,Q7,Q6,Qx,qA,qL,Qy,JS,Ql,Zf,⟨P,T,L,I,Y,R⟩,JA,Qm,qd,qh,qg,qf,qW,qV,qU,qB,JI,JT,qC,Ju,qi,O z0,O z1,O z2,O z3,O z4,O z5,O z6,O z7,O z8,O z9,O c1,O c2,O c3,O c4,O c5,M ad,⟨_,rfl⟩,M s,kk_MOST_NAMES⟩⟩
end
end K42
open PySem PySem.W PyProof.Rows
set_option maxRecDepth 100000 in
set_option maxHeartbeats 0 in
theorem PySem.Challenge.cw_camplay_k42_kept_and_resumed_holds : PySem.Challenge.rw_camplay_k42_kept_and_resumed.Holds := by
 w_on;o_law;k_head;(case hw=>w_witness2)
 k_fill
 refine L2.Io (l:=PySem.Challenge.rw_camplay_k42_kept_and_resumed) (n:=63) (k:=64) (x:="_law_script") (CX:=L2.oZ) (sp:=Pr.g4) rfl nofun rfl ⟨rfl,by decide,by decide⟩ (λw h Y=>PySem.W.kIn_of Y) ?F (λK H a ns hl hb hO hS=>⟨a,ns,rfl,hS,hl,hb,λ_=>rfl⟩) (λ_ _ _ _ z=>z)
 case F=>
  intro w mg fa h KX G hmg;have TT:∃t:K42.Ad,K42.Txt (L2.KOf KX) mg t:=by
   dsimp only[L2.KOf];refine' K42.ML KX G ?_ ?_ ?_ ?_ ?_ ?_ ?_ ?_ ?_ ?_ ?_ ?_ ?_ ?_ ?_ ?_ ?_ ?_ ?_ ?_ ?_ ?_ ?_ ?_ (L2.jK ?_ ?_ ?_) ?_ (L2.jK ?_ ?_ ?_) ?_ (L2.jK ?_ ?_ ?_) ?_ (L2.jK ?_ ?_ ?_) ?_ (L2.jK ?_ ?_ ?_) ?_ (L2.jK ?_ ?_ ?_) ?_ (L2.jK ?_ ?_ ?_) ?_ (L2.jK ?_ ?_ ?_) ?_ (L2.jK ?_ ?_ ?_) ?_ (L2.jK ?_ ?_ ?_) ?_ (L2.jK ?_ ?_ ?_) ?_ (L2.jK ?_ ?_ ?_) ?_ (L2.jK ?_ ?_ ?_) ?_ (L2.jK ?_ ?_ ?_) ?_ (L2.jK ?_ ?_ ?_) ?_ (L2.jK ?_ ?_ ?_) ?_ (L2.jK ?_ ?_ ?_) ?_ (L2.jK ?_ ?_ ?_) ?_ (L2.jK ?_ ?_ ?_) ?_ ?_ (L2.jK ?_ ?_ ?_) ?_ ?_ (L2.jK ?_ ?_ ?_) ?_ ?_ (L2.jK ?_ ?_ ?_) ?_ ?_ (L2.jK ?_ ?_ ?_) ?_ (L2.jK ?_ ?_ ?_) ?_ (L2.jK ?_ ?_ ?_) ?_ ?_ (L2.jK ?_ ?_ ?_) ?_ ?_ (L2.jK ?_ ?_ ?_) ?_ ?_ (L2.jK ?_ ?_ ?_) ?_ ?_ (L2.jK ?_ ?_ ?_) ?_ ?_ (L2.jK ?_ ?_ ?_) ?_ ?_ (L2.jK ?_ ?_ ?_) ?_ ?_ (L2.jK ?_ ?_ ?_) ?_ (L2.jK ?_ ?_ ?_) ?_ (L2.jK ?_ ?_ ?_) ?_ (L2.jK ?_ ?_ ?_) ?_ (L2.jK ?_ ?_ ?_) ?_ (L2.jK ?_ ?_ ?_) ?_ (L2.jK ?_ ?_ ?_) ?_ (L2.jK ?_ ?_ ?_) ?_ (L2.jK ?_ ?_ ?_) ?_ (L2.jK ?_ ?_ ?_) ?_ (L2.jK ?_ ?_ ?_) ?_ (L2.jK ?_ ?_ ?_) ?_ (L2.jK ?_ ?_ ?_) ?_ (L2.jK ?_ ?_ ?_) ?_ (L2.jK ?_ ?_ ?_) ?_ (L2.jK ?_ ?_ ?_) ?_ (L2.jK ?_ ?_ ?_) ?_ (L2.jK ?_ ?_ ?_) ?_ (L2.jK ?_ ?_ ?_) ?_ (L2.jK ?_ ?_ ?_) ?_ (L2.jK ?_ ?_ ?_) ?_ ?_ ?kk_MOST_NAMES ?_ ?_ ?_ ?_ ?_ ?_ ?_ ?_ ?_ ?_ ?_ ?_ ?_ ?yx ?_ ?_ ?_ ?_ ?_ ?_ ?J0 ?qj ?Qh ?Qk ?Qj ?Qi ?Q8 ?Q7 ?Q6 ?Qx ?qA ?qL ?Qy ?JS ?Ql ?Zf ?_ ?_ ?_ ?_ ?_ ?_ ?JA ?Qm ?qd ?qh ?qg ?qf ?qW ?qV ?qU ?qB ?JI ?JT ?qC ?Ju ?qi ?_ ?_ ?_ ?_ ?_ ?_ ?_ ?_ ?_ ?_ ?_ ?_ ?_ ?_ ?_
   any_goals first | (show PySem.W.nsIn _ _ _=_;k_is) | (show PySem.W.findIn _ _ _=_;k_is) | k_is
   (case kk_MOST_NAMES=>(show PyProof.Rows.KTD.tabLook _ _ _ _=true);kernel_rfl)
   (case yx=>k_exc)
   (case J0=>kts_exm)
   (case qj=>kts_exm)
   (case Qh=>kit_is)
   (case Qk=>kit_is)
   (case Qj=>kit_is)
   (case Qi=>kit_is)
   (case Q8=>kit_is)
   (case Q7=>kit_is)
   (case Q6=>kit_is)
   (case Qx=>kit_is)
   (case qA=>kit_is)
   (case qL=>kit_is)
   (case Qy=>kit_is)
   (case JS=>kit_is)
   (case Ql=>kit_is)
   (case Zf=>k_exc)
   (case JA=>kts_exm)
   (case Qm=>kts_exm)
   (case qd=>kit_is)
   (case qh=>kit_is)
   (case qg=>kit_is)
   (case qf=>kit_is)
   (case qW=>kit_is)
   (case qV=>kit_is)
   (case qU=>kit_is)
   (case qB=>kit_is)
   (case JI=>kit_is)
   (case JT=>kit_is)
   (case qC=>kit_is)
   (case Ju=>kit_is)
   (case qi=>kit_is)
  let⟨t,T⟩:=TT;let⟨_,_,kV,dc,pm,an,cd,ct,_,e,_⟩:=T.A4.F.ex;have e0:=hmg.symm.trans T.A4.m;cases e0;refine⟨t.sj,λs v=>?_,λbase _ _=>K42.fin T⟩;rw[e];exact .of_eq rfl
#print axioms PySem.Challenge.cw_camplay_k42_kept_and_resumed_holds
