import PyProof.Rows.All
import Wide.All
import OpenK.AllK
import Wide.FinOn
import Lean
import PyProof.EqAt
import PyProof.EqKinds
import PyProof.TupleCall
import PySem.Challenge.RW_camplay_k36_like_books
set_option Elab.async false
set_option linter.all false
set_option maxRecDepth 100000
set_option maxHeartbeats 4000000
open List (all_cons all_eq_true any_cons append_nil filter_append filter_cons forall_mem_cons getD_eq_getElem?_getD getElem_idxOf getElem_mem getElem_take idxOf_lt_length_of_mem length_cons length_drop length_filter_le length_map length_nil length_range length_singleton length_take length_zip lookup_cons map_append map_congr_left map_cons map_drop map_map map_nil map_take mem_append mem_append_left mem_append_right mem_cons mem_cons_of_mem mem_cons_self mem_filter mem_iff_getElem mem_map mem_of_getElem? mem_of_mem_drop mem_of_mem_take mem_range mem_singleton nodup_append nodup_cons not_mem_nil of_mem_zip pairwise_iff_getElem pairwise_map size_toArray sum_cons take_length take_of_length_le take_sublist)
abbrev Frg := PySem.W.Frag
namespace L2
open PySem PySem.Spec PyProof.Rows
noncomputable abbrev Key:=Sum Int Str
noncomputable def keyIs:Key->Value->Bool
 | .inl k,v=>Value.isInt k v
 | .inr x,v=>Value.isStrOf x v
noncomputable def keyH(w:World):Key->Int
 | .inl k=>hashInt k
 | .inr x=>hashStr w x
theorem jU:∀{k:Key} {v:Value},keyIs k v=true->(∃i t,k=Sum.inl i/\v=Value.int i t)\/(∃x t,k=Sum.inr x/\v=Value.str x t)
 | .inl i,v,h=>by
  obtain⟨t,e⟩:=Value.isInt_shape (k:=i) (v:=v) h;exact .inl ⟨i,t,rfl,e⟩
 | .inr x,v,h=>by
  obtain⟨t,e⟩:=Value.isStrOf_shape (x:=x) (v:=v) h;exact .inr ⟨x,t,rfl,e⟩
theorem Kr(i:Int)(t:Tok):keyIs (.inl i) (.int i t)=true:=by simp[keyIs,Value.isInt]
theorem Ks(x:Str)(t:Tok):keyIs (.inr x) (.str x t)=true:=by simp[keyIs,Value.isStrOf]
theorem xh(a b:Int):decide ((Sum.inl a:Key)=Sum.inl b)=(a==b):=by
 by_cases e:a=b
 ·subst e;simp
 ·have h:¬(Sum.inl a:Key)=Sum.inl b:=fun q=>e (Sum.inl.inj q)
  rw[decide_eq_false h];exact(beq_eq_false_iff_ne.mpr e).symm
theorem xm(a b:Str):decide ((Sum.inr a:Key)=Sum.inr b)=decide (a=b):=by
 by_cases e:a=b
 ·subst e;simp
 ·have h:¬(Sum.inr a:Key)=Sum.inr b:=fun q=>e (Sum.inr.inj q)
  rw[decide_eq_false h,decide_eq_false e]
theorem xi(a:Int)(b:Str):decide ((Sum.inl a:Key)=Sum.inr b)=false:=decide_eq_false (fun q=>nomatch q)
theorem xj(a:Str)(b:Int):decide ((Sum.inr a:Key)=Sum.inl b)=false:=decide_eq_false (fun q=>nomatch q)
noncomputable def mixKind(prog:Program)(w:World):PySem.KeyKind prog w Key where
 is:=keyIs
 hash:=keyH w
 inj:=fun v a b ha hb=>by
  rcases jU ha with⟨i,t,rfl,rfl⟩ | ⟨x,t,rfl,rfl⟩
  ·rcases jU hb with⟨j,u,rfl,e⟩ | ⟨y,u,rfl,e⟩
   ·injection e with e1 _;rw[e1]
   ·exact nomatch e
  ·rcases jU hb with⟨j,u,rfl,e⟩ | ⟨y,u,rfl,e⟩
   ·exact nomatch e
   ·injection e with e1 _;rw[e1]
 byValue:=fun k v h=>by
  rcases jU h with⟨i,t,rfl,rfl⟩ | ⟨x,t,rfl,rfl⟩<;>rfl
 pyHash:=fun hv h=>by
  rcases jU hv with⟨i,t,rfl,rfl⟩ | ⟨x,t,rfl,rfl⟩
  ·exact wpAny_pyHash_int h
  ·exact wpAny_pyHash_str h
 eqBool:=fun hu hv h=>by
  rcases jU hu with⟨i,t,rfl,rfl⟩ | ⟨x,t,rfl,rfl⟩
  ·rcases jU hv with⟨j,u,rfl,rfl⟩ | ⟨y,u,rfl,rfl⟩
   ·rw[xh]at h;exact wpAny_eqBool_int h
   ·rw[xi]at h;exact SeqAt.EqAt.int_str i t y u _ _ _ _ h
  ·rcases jU hv with⟨j,u,rfl,rfl⟩ | ⟨y,u,rfl,rfl⟩
   ·rw[xj]at h;exact SeqAt.EqAt.str_int x t j u _ _ _ _ h
   ·rw[xm]at h;exact wpAny_eqBool_str h
 «strs»:=fun k x t v h=>by
  rcases jU h with⟨i,u,rfl,e⟩ | ⟨y,u,rfl,e⟩
  ·exact nomatch e
  ·injection e with e1 _;subst e1;cases v<;>rfl
theorem Yt(prog:Program)(w:World)(i:Int)(t:Tok):(mixKind prog w).is (.inl i) (.int i t)=true:=Kr i t
theorem Yu(prog:Program)(w:World)(x:Str)(t:Tok):(mixKind prog w).is (.inr x) (.str x t)=true:=Ks x t
inductive V where
 | non | bl (b:Bool) | int (i:Int) | str (x:Str) | byt (b:Array UInt8) | flt (b:UInt64) | ref (a:Addr) | ty (n:String)
 deriving DecidableEq
noncomputable def RelV:V->Value->Prop
 | .non,u=>u=Value.none
 | .bl b,u=>u=Value.bool b
 | .int i,u=>∃t,u=Value.int i t
 | .str x,u=>∃t,u=Value.str x t
 | .byt b,u=>∃t,u=Value.bytes b t
 | .flt b,u=>∃t,u=Value.float b t
 | .ref a,u=>u=Value.ref a
 | .ty n,u=>u=Value.type n
noncomputable abbrev Vals:List V->List Value->Prop:=Paired RelV
theorem Vals.length{xs:List V}{us:List Value}(r:Vals xs us):xs.length=us.length:=Paired.length r
theorem Vals.get:∀{xs:List V} {us:List Value} {i:Nat} {x:V},Vals xs us->xs[i]?=some x->∃u,us[i]?=some u/\RelV x u
 | _,_,_,_,.nil,e=>by simp at e
 | _,_,0,_,.cons r _,e=>by simp at e;subst e;exact⟨_,rfl,r⟩
 | _,_,i+1,x,.cons _ t,e=>by
  obtain⟨u,h1,h2⟩:=Vals.get (i:=i) (x:=x) t (by simpa using e);exact⟨u,by simpa using h1,h2⟩
theorem Vals.append:∀{xs ys:List V} {us ws:List Value},Vals xs us->Vals ys ws->Vals (xs++ys) (us++ws)
 | _,_,_,_,.nil,s=>s
 | _,_,_,_,.cons r t,s=>.cons r (Vals.append t s)
theorem Vals.take:∀{xs:List V} {us:List Value} (n:Nat),Vals xs us->Vals (xs.take n) (us.take n)
 | _,_,0,_=>.nil
 | _,_,_+1,.nil=>.nil
 | _,_,n+1,.cons r t=>.cons r (Vals.take n t)
theorem Vals.drop:∀{xs:List V} {us:List Value} (n:Nat),Vals xs us->Vals (xs.drop n) (us.drop n)
 | _,_,0,r=>r
 | _,_,_+1,.nil=>.nil
 | _,_,n+1,.cons _ t=>Vals.drop n t
noncomputable def RelO:Option V->Option Value->Prop
 | some v,some u=>RelV v u
 | none,none=>True
 | _,_=>False
noncomputable def KV{κ:Type}:List (κ×V)->List (κ×Value)->Prop:=Paired fun(p:κ×V) (q:κ×Value)=>p.1=q.1/\RelV p.2 q.2
noncomputable def kV:Key->V
 | .inl i=>.int i
 | .inr x=>.str x
inductive HO where
 | lst (xs:List V)
 | tup (xs:List V)
 | dK (kvs:List (Key×V)) | dT (kvs:List (List Key×V))
 | set (S:Int->Bool) (n:Nat)
 | ins (C dx:Addr) (fs:List (Str×V))
 | own (x:Addr)
 | xd (fs:List (Str×V))
 | met (f x:Addr)
 | rng (lo hi:Int)
 | frz (o:Obj) (u:HO)
 | tbl (ps:Array Value)
 | ext (φ:Heap->Prop)
noncomputable abbrev Hp:=Addr->Option HO
noncomputable def upd(H:Hp)(a:Addr)(o:HO):Hp:=fun b=>if b=a then some o else H b
theorem jf{H:Hp}{a:Addr}{o:HO}:upd H a o a=some o:=by unfold upd;rw[if_pos rfl]
theorem jk{H:Hp}{a b:Addr}{o:HO}(h:b≠a):upd H a o b=H b:=by unfold upd;rw[if_neg h]
theorem WJ{H:Hp}{a:Addr}{o u:HO}:upd (upd H a o) a u=upd H a u:=by
 funext b;unfold upd;split<;>rfl
theorem qk{H:Hp}{a b:Addr}{o u:HO}(h:H a=some o)(h':H b=some u)(d:o≠u):a≠b:=by
 intro e;subst e;rw[h]at h';exact d (Option.some.inj h')
theorem je{H:Hp}{a b:Addr}{o:HO}(h:H a=some o)(h':H b=none):a≠b:=by
 intro e;subst e;rw[h]at h';cases h'
section
variable(P:Program)(w:World)
noncomputable def ObjOk(H:Hp)(h:Heap)(a:Addr):HO->Prop
 | .lst xs=>xs.length<=sizeLine/\∃(its:List Value) (n:Nat),Vals xs its/\h.get? a=some {cls:=.type "list",data:=.seq its.toArray n}
 | .tup xs=>xs.length<=sizeLine/\∃its:List Value,Vals xs its/\IsTup h a its.toArray
 | .dK kvs=>kvs.length<=sizeLine/\(a==sysModules)=false/\∃vs,KV kvs vs/\h.DictOf (mixKind P w) a vs
 | .dT kvs=>kvs.length<=sizeLine/\(a==sysModules)=false/\∃xs:List (List Key×Addr×Value),
   Paired (fun(p:List Key×V) (q:List Key×Addr×Value)=>p.1=q.1/\H q.2.1=some (.tup (p.1.map kV))/\RelV p.2 q.2.2) kvs xs/\
   ∃o es ep,h.get? a=some o/\o.ExactDict/\o.data = .dict es ep/\es.toList=xs.map (entryOfKey (tupleKind (mixKind P w)))/\(xs.map (·.1)).Nodup
 | .set S n=>h.SetOf (intKind P w) a S n
 | .ins C dx fs=>H dx=some (.own a)/\fs.length<=1000/\dx≠a/\h.get? a=some (PySem.W.instObj C dx)/\
   ∃mA,h.Ns1 dx mA/\(∀f,RelO (fs.lookup f) (mA f))/\PySem.Within mA (fs.map (·.1))
 | .own _=>∃o,h.get? a=some o
 | .xd fs=>∃mA,h.Ns1 a mA/\∀f,RelO (fs.lookup f) (mA f)
 | .rng lo hi=>∃t u v,h.get? a=some {cls:=.type "range",data:=.fields #[.int lo t,.int hi u,.int 1 v]}
 | .frz o u=>h.get? a=some o/\ObjOk H h a u
 | .tbl ps=>h.get? a=some {cls:=.none,data:=.fields ps}
 | .met f x=>h.get? a=some (PySem.W.methodObj (.ref f) (.ref x))
 | .ext φ=>φ h/\(∃o,h.get? a=some o)/\∀h1 h2:Heap,φ h1->(∀o,h1.get? a=some o->h2.get? a=some o)->φ h2
def HOk(H:Hp)(h:Heap):Prop:=∀a o,H a=some o->ObjOk P w H h a o
end
section
variable{P:Program}{w:World}{H H':Hp}{h h':Heap}{a:Addr}{o:HO}
theorem ObjOk.lt(x:ObjOk P w H h a o):a<h.objs.size:=by
 cases o with
 | lst xs=>obtain⟨_,_,_,_,e⟩:=x;exact Heap.lt_size e
 | tup xs=>obtain⟨_,_,_,p⟩:=x;exact p.lt
 | dK kvs=>obtain⟨_,_,_,_,o,_,_,e,_⟩:=x;exact Heap.lt_size e
 | dT kvs=>obtain⟨_,_,_,_,o,_,_,e,_⟩:=x;exact Heap.lt_size e
 | set S n=>obtain⟨o,_,_,_,e,_⟩:=x;exact Heap.lt_size e
 | ins C dx fs=>obtain⟨_,_,_,e,_⟩:=x;exact Heap.lt_size e
 | own y=>obtain⟨_,e⟩:=x;exact Heap.lt_size e
 | xd fs=>obtain⟨_,⟨_,_,_,e,_⟩,_⟩:=x;exact Heap.lt_size e
 | rng lo hi=>obtain⟨_,_,_,e⟩:=x;exact Heap.lt_size e
 | frz ob u=>obtain⟨e,_⟩:=x;exact Heap.lt_size e
 | tbl ps=>exact Heap.lt_size (show h.get? a=some _ from x)
 | met f y=>exact Heap.lt_size (show h.get? a=some _ from x)
 | ext φ=>obtain⟨_,⟨_,e⟩,_⟩:=x;exact Heap.lt_size e
theorem Paired.mapP{α β:Type}{F G:α->β->Prop}:∀{l₁:List α} {l₂:List β},Paired F l₁ l₂->(∀a b,F a b->G a b)->Paired G l₁ l₂
 | _,_,.nil,_=>.nil
 | _,_,.cons r t,f=>.cons (f _ _ r) (Paired.mapP t f)
theorem ObjOk.stay(x:ObjOk P w H h a o)(k:∀b u,(b=a\/H b=some (.own a))->h.get? b=some u->h'.get? b=some u)
  (ho:∀b,H b=some (.own a)->H' b=some (.own a)) (ht:∀b xs,H b=some (.tup xs)->H' b=some (.tup xs)):ObjOk P w H' h' a o:=by
 induction o with
 | lst xs=>obtain⟨z,its,n,r,e⟩:=x;exact⟨z,its,n,r,k _ _ (.inl rfl) e⟩
 | tup xs=>obtain⟨z,its,r,ob,e,c⟩:=x;exact⟨z,its,r,ob,k _ _ (.inl rfl) e,c⟩
 | dK kvs=>obtain⟨z,y,vs,r,ob,es,ep,e,c⟩:=x;exact⟨z,y,vs,r,ob,es,ep,k _ _ (.inl rfl) e,c⟩
 | dT kvs=>
  obtain⟨z,y,xs,r,ob,es,ep,e,c⟩:=x;exact⟨z,y,xs,Paired.mapP r fun p q z=>⟨z.1,ht _ _ z.2.1,z.2.2⟩,ob,es,ep,k _ _ (.inl rfl) e,c⟩
 | set S n=>obtain⟨ob,es,ep,t,e,c⟩:=x;exact⟨ob,es,ep,t,k _ _ (.inl rfl) e,c⟩
 | ins C dx fs=>
  obtain⟨d,z,ne,e,mA,⟨od,es,ep,e2,c⟩,r⟩:=x;exact⟨ho _ d,z,ne,k _ _ (.inl rfl) e,mA,⟨od,es,ep,k _ _ (.inr d) e2,c⟩,r⟩
 | own y=>obtain⟨ob,e⟩:=x;exact⟨ob,k _ _ (.inl rfl) e⟩
 | xd fs=>obtain⟨mA,⟨od,es,ep,e,c⟩,r⟩:=x;exact⟨mA,⟨od,es,ep,k _ _ (.inl rfl) e,c⟩,r⟩
 | rng lo hi=>obtain⟨t,u,v,e⟩:=x;exact⟨t,u,v,k _ _ (.inl rfl) e⟩
 | frz ob u ih=>obtain⟨e,q⟩:=x;exact⟨k _ _ (.inl rfl) e,ih q⟩
 | tbl ps=>
  have e:h.get? a=some {cls:=.none,data:=.fields ps}:=x;show h'.get? a=some {cls:=.none,data:=.fields ps};exact k a _ (.inl rfl) e
 | met f y=>
  have e:h.get? a=some (PySem.W.methodObj (.ref f) (.ref y)):=x;show h'.get? a=some (PySem.W.methodObj (.ref f) (.ref y));exact k a _ (.inl rfl) e
 | ext φ=>obtain⟨p,⟨o,e⟩,st⟩:=x;exact⟨st _ _ p fun o q=>k _ _ (.inl rfl) q,⟨o,k _ _ (.inl rfl) e⟩,st⟩
theorem HOk.lt(x:HOk P w H h)(e:H a=some o):a<h.objs.size:=(x a o e).lt
theorem HOk.fresh(x:HOk P w H h)(e:h.objs.size<=a):H a=none:=by
 cases q:H a with
 | none=>rfl
 | some u=>exact absurd (Nat.lt_of_lt_of_le (x.lt q) e) (Nat.lt_irrefl _)
theorem HOk.kept(x:HOk P w H h)(k:∀b u,h.get? b=some u->h'.get? b=some u):HOk P w H h':=fun a o e=>
 (x a o e).stay (fun b u _ q=>k b u q) (fun _ q=>q) fun _ _ q=>q
theorem HOk.laid(x:HOk P w H h)(k:∀b u,h.get? b=some u->h'.get? b=some u)(hp:h.objs.size<=a)(new:ObjOk P w (upd H a o) h' a o):HOk P w (upd H a o) h':=fun b u e=>by
 have hn:=x.fresh hp;by_cases hb:b=a
 ·subst hb;rw[jf]at e;cases e;exact new
 ·rw[jk hb]at e;exact(x b u e).stay (fun c v _ q=>k c v q) (fun c q=>by rw[jk (je q hn)];exact q) fun c xs q=>by rw[jk (je q hn)];exact q
end
def Rd(H:Hp)(a:Addr)(u:HO):Prop:=H a=some u\/∃o,H a=some (.frz o u)
theorem Rd.ok{P:Program}{w:World}{H:Hp}{h:Heap}{a:Addr}{u:HO}(r:Rd H a u)(x:HOk P w H h):ObjOk P w H h a u:=by
 rcases r with r | ⟨o,r⟩
 ·exact x a u r
 ·obtain⟨_,q⟩:=x a _ r;exact q
noncomputable def Mut:Option HO->Prop
 | some (.lst _)=>True
 | some (.dK _)=>True
 | some (.dT _)=>True
 | some (.set _ _)=>True
 | some (.ins _ _ _)=>True
 | some (.ext _)=>True
 | _=>False
section
variable{P:Program}{w:World}{H:Hp}{h h':Heap}{x e:Addr}{o':HO}
theorem HOk.write(ok:HOk P w H h)(mu:Mut (H x))(he:e=x\/H e=some (.own x))(k:∀b u,b≠e->h.get? b=some u->h'.get? b=some u)(heo:∃u,h'.get? e=some u)
  (new:ObjOk P w (upd H x o') h' x o'):HOk P w (upd H x o') h':=fun b u q=>by
 have nown:∀c y,H c=some (.own y)->c≠x:=fun c y r z=>by subst z;rw[r]at mu;exact mu
 have ntup:∀c xs,H c=some (.tup xs)->c≠x:=fun c xs r z=>by subst z;rw[r]at mu;exact mu
 by_cases hb:b=x
 ·subst hb;rw[jf]at q;cases q;exact new
 ·rw[jk hb]at q;by_cases hbe:b=e
  ·have q':H b=some (.own x):=by
    rcases he with z | z
    ·exact absurd (hbe.trans z) hb
    ·rw[hbe];exact z
   rw[q]at q';cases q';obtain⟨v,hv⟩:=heo;exact⟨v,by rw[hbe];exact hv⟩
  ·refine(ok b u q).stay (fun c v hc r=>k c v ?_ r) (fun c r=>by rw[jk (nown c b r)];exact r) fun c xs r=>by rw[jk (ntup c xs r)];exact r
   rcases hc with rfl | hc
   ·exact hbe
   ·rintro rfl;rcases he with z | z
    ·exact nown c b hc z
    ·rw[hc]at z;cases z;exact hb rfl
end
structure Un(fs ex:List Addr)(H H':Hp)(h h':Heap):Prop where
 keep:∀b o,h.get? b=some o->H b=none->b∉fs->b∉ex->h'.get? b=some o
 slot:∀b o,h.get? b=some o->H b=none->b∈fs->b∉ex->∃sl,h'.get? b=some {o with slots:=sl}
 free:∀b o,h.get? b=some o->H b=none->b∉ex->H' b=none
 there:∀b o,h.get? b=some o->b∉ex->∃o',h'.get? b=some o'
 tups:∀b xs,H b=some (.tup xs)->H' b=some (.tup xs)
 frzs:∀b o u,H b=some (.frz o u)->H' b=some (.frz o u)
 tbls:∀b ps,H b=some (.tbl ps)->∃more,H' b=some (.tbl (ps++more))
section
variable{fs fs' ex ex':List Addr}{H H1 H2:Hp}{h h1 h2 h':Heap}{a x e:Addr}{o:HO}
theorem Un.any(u:Un fs ex H H1 h h1){b:Addr}{ob:Obj}(q:h.get? b=some ob)(n:H b=none)(hx:b∉ex):∃sl,h1.get? b=some {ob with slots:=sl}:=by
 by_cases hb:b∈fs
 ·exact u.slot b ob q n hb hx
 ·exact⟨ob.slots,u.keep b ob q n hb hx⟩
theorem Un.kept(k:∀b u,h.get? b=some u->h'.get? b=some u):Un fs ex H H h h':=
 ⟨fun b ob q _ _ _=>k b ob q,fun b ob q _ _ _=>⟨ob.slots,k b ob q⟩,fun _ _ _ n _=>n,fun b ob q _=>⟨ob,k b ob q⟩,fun _ _ q=>q,fun _ _ _ q=>q,fun _ ps q=>⟨#[],by rw[q];simp⟩⟩
theorem Un.refl:Un fs ex H H h h:=Un.kept fun _ _ q=>q
theorem Un.laid(k:∀b u,h.get? b=some u->h'.get? b=some u)(hp:h.objs.size<=a)(hn:H a=none):Un fs ex H (upd H a o) h h' where
 keep:=fun b u q _ _ _=>k b u q
 slot:=fun b u q _ _ _=>⟨u.slots,k b u q⟩
 free:=fun b u q n _=>by rw[jk (Nat.ne_of_lt (Nat.lt_of_lt_of_le (Heap.lt_size q) hp))];exact n
 there:=fun b u q _=>⟨u,k b u q⟩
 tups:=fun b xs q=>by rw[jk (je q hn)];exact q
 frzs:=fun b u xs q=>by rw[jk (je q hn)];exact q
 tbls:=fun b ps q=>⟨#[],by rw[jk (je q hn),q];simp⟩
theorem Un.write(mu:Mut (H x))(he:e=x\/H e=some (.own x))(k:∀b u,b≠e->h.get? b=some u->h'.get? b=some u)(heo:∃u,h'.get? e=some u):Un fs ex H (upd H x o) h h':=by
 have hx:∀b,H b=none->b≠x:=fun b n z=>by subst z;rw[n]at mu;exact mu
 have hb:∀b,H b=none->b≠e:=fun b n z=>by
  subst z;rcases he with r | r
  ·exact hx b n r
  ·rw[n]at r;cases r
 have hm:∀b u,H b=some u->¬Mut (some u)->b≠x:=fun b u q nm z=>by subst z;rw[q]at mu;exact nm mu
 refine⟨fun b u q n _ _=>k b u (hb b n) q,fun b u q n _ _=>⟨u.slots,k b u (hb b n) q⟩,fun b u q n _=>by rw[jk (hx b n)];exact n,fun b u q _=>?_,
  fun b xs q=>by rw[jk (hm b _ q fun z=>z)];exact q,fun b u xs q=>by rw[jk (hm b _ q fun z=>z)];exact q,fun b ps q=>⟨#[],by rw[jk (hm b _ q fun z=>z),q];simp⟩⟩
 by_cases hbe:b=e
 ·subst hbe;exact heo
 ·exact⟨u,k b u hbe q⟩
end
noncomputable def trk(h:Heap)(H:Hp):List Addr:=(List.range h.objs.size).filter fun a=>(H a).isSome
noncomputable def hidT(h:Heap)(H:Hp):Heap:=PySem.W.hideAll h (trk h H)
theorem Kn(h:Heap)(H:Hp):(hidT h H).objs.size=h.objs.size:=PySem.W.hideAll_size _ _
theorem wd{h:Heap}{H:Hp}{b:Addr}{o:Obj}(e:h.get? b=some o)(n:H b=none):(hidT h H).get? b=some o:=
 PySem.W.hideAll_get _ e fun hm=>by
  have q:(H b).isSome=true:=(mem_filter.mp hm).2;rw[n]at q;simp at q
theorem Wt{h:Heap}{H:Hp}{b:Addr}{o:Obj}(e:(hidT h H).get? b=some o):h.get? b=some o/\H b=none:=by
 have e':h.get? b=some o:=PySem.W.of_hideAll (trk h H) e;refine⟨e',?_⟩;cases q:H b with
 | none=>rfl
 | some x=>
  have hm:b∈trk h H:=mem_filter.mpr ⟨mem_range.mpr (Heap.lt_size e'),by simp[q]⟩;have z:(hidT h H).get? b=none:=PySem.W.hideAll_none (trk h H) hm;rw[z]at e;cases e
structure Mod(K:Frg)(mg:Str->Option Value)(base:Heap):Prop where
 kin:K.In base
 glob:base.Ns mainGlobals mg
 blt:∃mb,base.Ns builtinsNs mb/\∀x:Str,x≠"__name__"->mb x=bootBuiltins x
 nolimit:base.NoLimit
structure Cx where
 prog:Program
 w:World
 K:Frg
 mg:Str->Option Value
 base:Heap
 A:Around
 N:List Str
 s₀:Shared
 H₀:Hp
 env:Env
 outer:List Env
 stack:List Env
 ex:List Addr
 fn:Str->Bool
 calm:Bool
 pn:List (Addr×Obj)
 xe:Value->Shared->Prop
noncomputable def frs(l:List Env):List Addr:=l.filterMap (·.frame)
noncomputable abbrev Cx.fs(X:Cx):List Addr:=frs X.outer
def Vis(sc:Scope)(x:Str):Prop:=sc.names.lookup x=some .local\/sc.names.lookup x=some .cell\/sc.names.lookup x=some .free
def Loc(sc:Scope)(x:Str):Prop:=sc.names.lookup x=some .local\/sc.names.lookup x=some .cell
def Look(env:Env)(h:Heap)(m:Str->Option Value)(x:Str)(u:Value):Prop:=
 (env.kindOf x=some .local/\m x=some u)\/((env.kindOf x=some .cell\/env.kindOf x=some .free)/\∃c,env.cells.lookup x=some c/\h.IsCell c (some u))
structure Cx.Ok(X:Cx):Prop where
 mod:Mod X.K X.mg X.base
 kind:X.env.scope.kind = .function
 glob:X.env.globals=mainGlobals
 blt:X.env.builtins=builtinsNs
 above:X.s₀.heap.objs.size<=X.env.locals
 inj:∀x y c,X.env.cells.lookup x=some c->X.env.cells.lookup y=some c->x=y
 has:∀x,(X.env.kindOf x=some .cell\/X.env.kindOf x=some .free)->∃c,X.env.cells.lookup x=some c
 cab:∀x c,X.fn x=true->X.env.cells.lookup x=some c->X.s₀.heap.objs.size<=c
 hd:X.calm=true->X.A.handled=none
 frames:X.A.frames=some X.stack
 stk:X.stack=X.outer\/(X.stack=X.env::X.outer/\X.env.frame=some X.env.locals)
 exf:∀b∈X.ex,b≠X.env.locals/\∀x c,X.env.cells.lookup x=some c->c≠b
 bs:∀b o,X.base.get? b=some o->X.s₀.heap.get? b=some o/\X.H₀ b=none
 bsz:X.base.objs.size<=X.s₀.heap.objs.size
 noex:∀b o,X.base.get? b=some o->b∉X.ex
 exfs:∀b∈X.ex,b∉X.fs
 funs:X.s₀.heap.FunFrames X.base X.outer
 frf:∀b∈X.fs,X.H₀ b=none
structure Inv(X:Cx)(pins:List (Addr×Obj))(σ:List (Option V))(H:Hp)(s:Shared):Prop where
 ok:X.Ok
 os:s.os=X.s₀.os
 bare:AllBare s.gens
 base:Un X.fs X.ex X.H₀ H X.s₀.heap s.heap
 loc:∃m,s.heap.Ns X.env.locals m/\∀(i:Nat) (x:Str) (v:V),X.N[i]?=some x->σ[i]?=some (some v)->Vis X.env.scope x->∃u,RelV v u/\Look X.env s.heap m x u
 cell:∀x c,X.env.cells.lookup x=some c->∃v,s.heap.IsCell c v
 free:H X.env.locals=none
 freeC:∀x c,X.env.cells.lookup x=some c->H c=none
 pin:∀p∈X.pn++pins,s.heap.get? p.1=some p.2/\H p.1=none/\p.1≠X.env.locals/\p.1∉X.fs/\∀v,p.2.data≠.cell v
 hok:HOk X.prog X.w H s.heap
 len:σ.length=X.N.length
section
variable{X:Cx}{pins:List (Addr×Obj)}{σ:List (Option V)}{H H':Hp}{s:Shared}{h':Heap}
theorem Cx.Ok.nofr(ok:X.Ok){b:Addr}{o:Obj}(e:X.base.get? b=some o):b∉X.fs:=fun hb=>by
 have:=(ok.funs.mem hb).1;rw[e]at this;cases this
theorem Inv.bs(I:Inv X pins σ H s):∀b o,X.base.get? b=some o->s.heap.get? b=some o/\H b=none:=fun b o e=>
 ⟨I.base.keep b o (I.ok.bs b o e).1 (I.ok.bs b o e).2 (I.ok.nofr e) (I.ok.noex b o e),I.base.free b o (I.ok.bs b o e).1 (I.ok.bs b o e).2 (I.ok.noex b o e)⟩
theorem Inv.bk(I:Inv X pins σ H s):∀b o,X.base.get? b=some o->s.heap.get? b=some o:=fun b o e=>(I.bs b o e).1
theorem Inv.mod(I:Inv X pins σ H s):Mod X.K X.mg X.base:=I.ok.mod
theorem Inv.kIn(I:Inv X pins σ H s):X.K.In s.heap:=I.ok.mod.kin.keeps I.bk
theorem Inv.lt(I:Inv X pins σ H s):X.env.locals<s.heap.objs.size:=let ⟨_,hn,_⟩:=I.loc;hn.lt
theorem Inv.sz(I:Inv X pins σ H s):X.s₀.heap.objs.size<=s.heap.objs.size:=Nat.le_trans I.ok.above (Nat.le_of_lt I.lt)
theorem Inv.nofs(I:Inv X pins σ H s){a:Addr}(h:s.heap.objs.size<=a):a∉X.fs:=fun hb=>by
 obtain⟨_,o,ho,_⟩:=I.ok.funs.mem hb;exact absurd (Nat.lt_of_lt_of_le (Heap.lt_size ho) (Nat.le_trans I.sz h)) (Nat.lt_irrefl _)
theorem Inv.cne(I:Inv X pins σ H s):∀x c,X.env.cells.lookup x=some c->c≠X.env.locals:=fun x c e z=>by
 obtain⟨v,o,ho,hd⟩:=I.cell x c e;obtain⟨m,⟨o',es,ep,ho',hd',_⟩,_⟩:=I.loc;rw[z,ho']at ho;cases ho;rw[hd']at hd;cases hd
theorem Inv.funs(I:Inv X pins σ H s):s.heap.FunFrames X.base X.outer:=by
 have all:∀(l:List Env),(∀b∈frs l,b∈X.fs)->X.s₀.heap.FunFrames X.base l->s.heap.FunFrames X.base l:=by
  intro l
  induction l with
  | nil=>intro _ _;trivial
  | cons env r ih=>
   intro hs hl;obtain⟨hk,⟨L,o,hf,hn,ho,hd⟩,hr⟩:=hl;have hL:L∈X.fs:=hs L (by unfold frs;rw[List.filterMap_cons,hf];exact mem_cons_self);obtain⟨sl,e⟩:=I.base.slot L o ho (I.ok.frf L hL) hL fun z=>I.ok.exfs L z hL
   exact⟨hk,⟨L,_,hf,hn,e,hd⟩,ih (fun b hb=>hs b (by unfold frs;rw[List.filterMap_cons,hf];exact mem_cons_of_mem _ hb)) hr⟩
 exact all X.outer (fun _ hb=>hb) I.ok.funs
theorem Inv.stack(I:Inv X pins σ H s):s.heap.FunFrames X.base X.stack:=by
 rcases I.ok.stk with e | ⟨e,hf⟩
 ·rw[e];exact I.funs
 ·rw[e];obtain⟨m,hn,_⟩:=I.loc;refine .cons (by rw[I.ok.kind];decide) hf hn ?_ I.funs;exact Heap.get?_none_of_le (Nat.le_trans I.ok.bsz I.ok.above)
theorem Inv.stkSub(I:Inv X pins σ H s):∀b∈frs X.stack,b∈X.env.locals::X.fs:=fun b hb=>by
 rcases I.ok.stk with e | ⟨e,hf⟩
 ·rw[e]at hb;exact mem_cons_of_mem _ hb
 ·rw[e]at hb;unfold frs at hb;rw[List.filterMap_cons,hf]at hb;exact hb
theorem Inv.stkFree(I:Inv X pins σ H s):∀b∈frs X.stack,H b=none:=fun b hb=>by
 rcases mem_cons.mp (I.stkSub b hb)with e | hb
 ·rw[e];exact I.free
 ·obtain⟨_,o,ho,_⟩:=I.ok.funs.mem hb;exact I.base.free b o ho (I.ok.frf b hb) fun z=>I.ok.exfs b z hb
theorem Inv.step{g':Array GenState}{t':Nat}{d':Drawn}{ch:List Addr}(I:Inv X pins σ H s)
  (hch:∀b∈ch,(b∈X.ex\/X.s₀.heap.objs.size<=b)/\b≠X.env.locals/\(∀x c,X.env.cells.lookup x=some c->c≠b)/\∀p∈X.pn++pins,p.1≠b)
  (keep:∀b o,b≠X.env.locals->b∉X.fs->b∉ch->s.heap.get? b=some o->H b=none->h'.get? b=some o)
  (slot:∀b o,b≠X.env.locals->b∈X.fs->b∉ch->s.heap.get? b=some o->H b=none->∃sl,h'.get? b=some {o with slots:=sl}) (free:∀b o,b∉ch->s.heap.get? b=some o->H b=none->H' b=none)
  (there:∀b o,b∉ch->s.heap.get? b=some o->∃o',h'.get? b=some o')
  (tups:∀b xs,H b=some (.tup xs)->H' b=some (.tup xs)) (frzs:∀b o u,H b=some (.frz o u)->H' b=some (.frz o u)) (tbls:∀b ps,H b=some (.tbl ps)->∃more,H' b=some (.tbl (ps++more)))
  (ns:∀m,s.heap.Ns X.env.locals m->h'.Ns X.env.locals m) (hok:HOk X.prog X.w H' h') (hg:AllBare g') :
  Inv X pins σ H' {s with heap:=h',gens:=g',drawn:=d',toks:=t'}:=by
 have neL:∀b o,X.s₀.heap.get? b=some o->b≠X.env.locals:=fun b o e=>Nat.ne_of_lt (Nat.lt_of_lt_of_le (Heap.lt_size e) I.ok.above)
 have neC:∀b o,X.s₀.heap.get? b=some o->b∉X.ex->b∉ch:=fun b o e hx hb=>by
  rcases(hch b hb).1 with z | z
  ·exact hx z
  ·exact absurd (Nat.lt_of_lt_of_le (Heap.lt_size e) z) (Nat.lt_irrefl _)
 have cellK:∀x c,X.env.cells.lookup x=some c->∀v,s.heap.IsCell c v->h'.IsCell c v:=fun x c e v ⟨o,ho,hd⟩=>by
  have nch:c∉ch:=fun z=>(hch c z).2.2.1 x c e rfl
  by_cases hc:c∈X.fs
  ·obtain⟨sl,q⟩:=slot c o (I.cne x c e) hc nch ho (I.freeC x c e);exact⟨_,q,hd⟩
  ·exact⟨o,keep c o (I.cne x c e) hc nch ho (I.freeC x c e),hd⟩
 refine⟨I.ok,I.os,hg,⟨fun b o e n hb hx=>?_,fun b o e n hb hx=>?_,fun b o e n hx=>?_,fun b o e hx=>?_,fun b xs e=>tups b xs (I.base.tups b xs e),fun b o xs e=>frzs b o xs (I.base.frzs b o xs e),fun b ps e=>?_⟩,?_,fun x c e=>?_,?_,fun x c e=>?_,fun p hp=>?_,hok,I.len⟩
 ·exact keep b o (neL b o e) hb (neC b o e hx) (I.base.keep b o e n hb hx) (I.base.free b o e n hx)
 ·obtain⟨sl,e1⟩:=I.base.slot b o e n hb hx;obtain⟨sl',e2⟩:=slot b _ (neL b o e) hb (neC b o e hx) e1 (I.base.free b o e n hx);exact⟨sl',e2⟩
 ·obtain⟨o',e1⟩:=I.base.there b o e hx;exact free b o' (neC b o e hx) e1 (I.base.free b o e n hx)
 ·obtain⟨o',e1⟩:=I.base.there b o e hx;exact there b o' (neC b o e hx) e1
 ·obtain⟨m1,e1⟩:=I.base.tbls b ps e;obtain⟨m2,e2⟩:=tbls b _ e1;exact⟨m1++m2,by rw[e2,Array.append_assoc]⟩
 ·obtain⟨m,hn,hl⟩:=I.loc;refine⟨m,ns m hn,fun i x v e1 e2 e3=>?_⟩;obtain⟨u,r,l⟩:=hl i x v e1 e2 e3;refine⟨u,r,?_⟩;rcases l with l | ⟨k,c,e,z⟩
  ·exact .inl l
  ·exact .inr ⟨k,c,e,cellK x c e _ z⟩
 ·obtain⟨v,z⟩:=I.cell x c e;exact⟨v,cellK x c e v z⟩
 ·obtain⟨m,⟨o,_,_,ho,_⟩,_⟩:=I.loc;exact free _ o (fun z=>(hch _ z).2.1 rfl) ho I.free
 ·obtain⟨v,o,ho,hd⟩:=I.cell x c e;exact free c o (fun z=>(hch c z).2.2.1 x c e rfl) ho (I.freeC x c e)
 ·obtain⟨e,n,ne,nf,d⟩:=I.pin p hp;have nch:p.1∉ch:=fun z=>(hch p.1 z).2.2.2 p hp rfl
  exact⟨keep p.1 p.2 ne nf nch e n,free p.1 p.2 nch e n,ne,nf,d⟩
theorem Inv.un{t':Nat}(I:Inv X pins σ H s)(u:Un X.fs [] H H' s.heap h')(hok:HOk X.prog X.w H' h'):Inv X pins σ H' {s with heap:=h',toks:=t'}:=by
 obtain⟨m,⟨o,es,ep,ho,r⟩,_⟩:=id I.loc;obtain⟨sl,hL⟩:=u.any ho I.free (by simp);exact I.step (g':=s.gens) (d':=s.drawn) (ch:=[]) (fun _ z=>nomatch z) (fun b o _ hb _ e n=>u.keep b o e n hb (by simp)) (fun b o _ hb _ e n=>u.slot b o e n hb (by simp)) (fun b o _ e n=>u.free b o e n (by simp)) (fun b o _ e=>u.there b o e (by simp)) u.tups u.frzs u.tbls (fun m' hm=>by
  obtain⟨o',es',ep',ho',r'⟩:=hm;rw[ho]at ho';cases ho';exact⟨_,es',ep',hL,r'⟩) hok I.bare
theorem Inv.call{g':Array GenState}{t':Nat}{d':Drawn}{ch:List Addr}(I:Inv X pins σ H s)(u:Un (frs X.stack) ch H H' s.heap h')(hok:HOk X.prog X.w H' h')(hg:AllBare g')
  (hch:∀b∈ch,(b∈X.ex\/X.s₀.heap.objs.size<=b)/\b≠X.env.locals/\(∀x c,X.env.cells.lookup x=some c->c≠b)/\∀p∈X.pn++pins,p.1≠b) :
  Inv X pins σ H' {s with heap:=h',gens:=g',drawn:=d',toks:=t'}:=by
 obtain⟨m,⟨o,es,ep,ho,r⟩,_⟩:=id I.loc;obtain⟨sl,hL⟩:=u.any ho I.free fun z=>(hch _ z).2.1 rfl
 exact I.step (ch:=ch) hch (fun b o hL hb hc e n=>u.keep b o e n (fun z=>(mem_cons.mp (I.stkSub b z)).elim hL hb) hc) (fun b o _ _ hc e n=>u.any e n hc) (fun b o hc e n=>u.free b o e n hc) (fun b o hc e=>u.there b o e hc) u.tups u.frzs u.tbls (fun m' hm=>by
  obtain⟨o',es',ep',ho',r'⟩:=hm;rw[ho]at ho';cases ho';exact⟨_,es',ep',hL,r'⟩) hok hg
theorem Inv.turned{t':Nat}{it:Addr}(I:Inv X pins σ H s)(k:∀b o,b≠it->s.heap.get? b=some o->h'.get? b=some o)(hn:H it=none)(hL:it≠X.env.locals)
  (h1:it∈X.ex\/X.s₀.heap.objs.size<=it) (h2:∀x c,X.env.cells.lookup x=some c->c≠it) (h3:∀p∈X.pn++pins,p.1≠it):Inv X pins σ H {s with heap:=h',toks:=t'}:=by
 have nit:∀b u,H b=some u->b≠it:=fun b u e z=>by rw[z,hn]at e;cases e
 refine I.step (g':=s.gens) (d':=s.drawn) (ch:=[it]) (fun b hb=>?_) (fun b o _ _ hc e _=>k b o (fun z=>hc (by simp[z])) e) (fun b o _ _ hc e _=>⟨o.slots,k b o (fun z=>hc (by simp[z])) e⟩) (fun _ _ _ _ n=>n)
  (fun b o hc e=>⟨o,k b o (fun z=>hc (by simp[z])) e⟩) (fun _ _ e=>e) (fun _ _ _ e=>e) (fun b ps e=>⟨#[],by rw[e];simp⟩) (fun m hm=>?_) (fun b u e=>?_) I.bare
 ·have e:b=it:=by simpa using hb
  subst e;exact⟨h1,hL,h2,h3⟩
 ·obtain⟨o,es,ep,ho,r⟩:=hm;exact⟨o,es,ep,k _ o (Ne.symm hL) ho,r⟩
 ·refine(I.hok b u e).stay (fun c v hc q=>k c v ?_ q) (fun _ q=>q) fun _ _ q=>q
  rcases hc with z | z
  ·rw[z];exact nit b u e
  ·exact nit c _ z
theorem Inv.tok(I:Inv X pins σ H s)(t:Nat):Inv X pins σ H {s with toks:=t}:=I.un (h':=s.heap) (t':=t) Un.refl I.hok
theorem Inv.kept{t':Nat}(I:Inv X pins σ H s)(k:∀b u,s.heap.get? b=some u->h'.get? b=some u):Inv X pins σ H {s with heap:=h',toks:=t'}:=I.un (Un.kept k) (I.hok.kept k)
theorem Inv.laid{a:Addr}{o:HO}{t':Nat}(I:Inv X pins σ H s)(k:∀b u,s.heap.get? b=some u->h'.get? b=some u)(hp:s.heap.objs.size<=a)(new:ObjOk X.prog X.w (upd H a o) h' a o) :
  Inv X pins σ (upd H a o) {s with heap:=h',toks:=t'}:=I.un (Un.laid k hp (I.hok.fresh hp)) (I.hok.laid k hp new)
theorem Inv.write{x e:Addr}{o:HO}{t':Nat}(I:Inv X pins σ H s)(mu:Mut (H x))(he:e=x\/H e=some (.own x))(k:∀b u,b≠e->s.heap.get? b=some u->h'.get? b=some u)(heo:∃u,h'.get? e=some u)
  (new:ObjOk X.prog X.w (upd H x o) h' x o):Inv X pins σ (upd H x o) {s with heap:=h',toks:=t'}:=I.un (Un.write mu he k heo) (I.hok.write mu he k heo new)
theorem Inv.weak{σ':List (Option V)}(I:Inv X pins σ H s)(hl:σ'.length=σ.length)(w:∀(i:Nat) v,σ'[i]?=some (some v)->σ[i]?=some (some v)):Inv X pins σ' H s:=
 ⟨I.ok,I.os,I.bare,I.base,let ⟨m,hn,hl'⟩:=I.loc;⟨m,hn,fun i x v e1 e2 e3=>hl' i x v e1 (w i v e2) e3⟩,I.cell,I.free,I.freeC,I.pin,I.hok,hl.trans I.len⟩
theorem Inv.pins_of{pins':List (Addr×Obj)}(I:Inv X pins σ H s)(h:∀p∈pins',s.heap.get? p.1=some p.2/\H p.1=none/\p.1≠X.env.locals/\p.1∉X.fs/\∀v,p.2.data≠.cell v):Inv X pins' σ H s:=
 ⟨I.ok,I.os,I.bare,I.base,I.loc,I.cell,I.free,I.freeC,fun p hp=>(mem_append.mp hp).elim (fun z=>I.pin p (mem_append_left _ z)) (h p),I.hok,I.len⟩
theorem Yz{N:List Str}(hN:N.Nodup){i j:Nat}{x:Str}(a:N[i]?=some x)(b:N[j]?=some x):i=j:=by
 obtain⟨h1,e1⟩:=List.getElem?_eq_some_iff.mp a;obtain⟨h2,e2⟩:=List.getElem?_eq_some_iff.mp b;exact(List.getElem_inj hN).mp (e1.trans e2.symm)
theorem yy{M:Model}{A:Around}{E:Value->Shared->Prop}{i:Nat}{x:Str}{v:V}{u:Value}{Q:Unit->Shared->Prop}(I:Inv X pins σ H s)(hN:X.N.Nodup)(hi:X.N[i]?=some x)(hx:Loc X.env.scope x)(r:RelV v u)
  (h:∀s',Inv X pins (σ.set i (some v)) H s'->(∃a,Heap.SameBut a s.heap s'.heap/\(a=X.env.locals\/X.env.cells.lookup x=some a))->Q () s') (hf:X.fn x=true\/X.env.scope.names.lookup x=some .local:=by first | exact .inl rfl | exact .inr rfl | assumption):wpAny M A (storeName X.env x u) Q E s:=by
 obtain⟨m,hn,hl⟩:=id I.loc;have hcls:(X.env.scope.kind == .class||(X.env.scope.kind == .module&&X.env.locals != X.env.globals))=false:=by rw[I.ok.kind];rfl
 have hiσ:i<σ.length:=by rw[I.len];exact(List.getElem?_eq_some_iff.mp hi).1
 have cne:=I.cne;have tracked:∀{a:Addr} {h':Heap},(∃o,s.heap.get? a=some o/\H a=none)->Heap.SameBut a s.heap h'->HOk X.prog X.w H h':=fun {a h'} ha hs b ob e=>by
  obtain⟨_,_,hfree⟩:=ha;refine(I.hok b ob e).stay (fun c w' hc q=>(hs.2 c ?_).trans q) (fun _ q=>q) fun _ _ q=>q
  rintro rfl;rcases hc with rfl | hc
  ·rw[hfree]at e;cases e
  ·rw[hfree]at hc;cases hc
 rcases hx with hk | hk
 ·refine wpAny_storeName_local hk hn (fun h' hn' hs=>?_) hcls;obtain⟨oL,_,_,hoL,_⟩:=id hn;refine h _ ⟨I.ok,I.os,I.bare,⟨fun b o e n hb hx=>?_,fun b o e n hb hx=>?_,I.base.free,fun b o e hx=>?_,I.base.tups,I.base.frzs,I.base.tbls⟩,⟨_,hn',fun j y v' e1 e2 e3=>?_⟩,fun y c e=>?_,I.free,I.freeC,fun p hp=>?_,tracked ⟨oL,hoL,I.free⟩ hs,by simpa using I.len⟩ ⟨_,hs,.inl rfl⟩
  ·exact(hs.2 b (Nat.ne_of_lt (Nat.lt_of_lt_of_le (Heap.lt_size e) I.ok.above))).trans (I.base.keep b o e n hb hx)
  ·obtain⟨sl,e1⟩:=I.base.slot b o e n hb hx;exact⟨sl,(hs.2 b (Nat.ne_of_lt (Nat.lt_of_lt_of_le (Heap.lt_size e) I.ok.above))).trans e1⟩
  ·obtain⟨o',e1⟩:=I.base.there b o e hx;exact⟨o',(hs.2 b (Nat.ne_of_lt (Nat.lt_of_lt_of_le (Heap.lt_size e) I.ok.above))).trans e1⟩
  ·by_cases hj:j=i
   ·subst hj;rw[hi]at e1;cases e1;rw[List.getElem?_set_self hiσ]at e2;cases e2;exact⟨u,r,.inl ⟨hk,by simp⟩⟩
   ·rw[List.getElem?_set_ne (Ne.symm hj)]at e2;obtain⟨u',r',q⟩:=hl j y v' e1 e2 e3;refine⟨u',r',?_⟩;rcases q with⟨k,e⟩ | ⟨k,c,e,z⟩
    ·refine .inl ⟨k,?_⟩;have:y≠x:=fun e=>hj (Yz hN e1 (e▸hi))
     simp[this,e]
    ·exact .inr ⟨k,c,e,z.sameBut hs (cne y c e)⟩
  ·obtain⟨w',z⟩:=I.cell y c e;exact⟨w',z.sameBut hs (cne y c e)⟩
  ·obtain⟨e,n,ne,nf,d⟩:=I.pin p hp;exact⟨(hs.2 p.1 ne).trans e,n,ne,nf,d⟩
 ·have hfn:X.fn x=true:=by
   rcases hf with z | z
   ·exact z
   ·rw[z]at hk;cases hk
  obtain⟨c,hc⟩:=I.ok.has x (.inl hk);obtain⟨w',z⟩:=I.cell x c hc;refine wpAny_storeName_cell I.ok.kind hk hc z (fun h' hc' hs=>?_);obtain⟨oc,hoc,hocd⟩:=id z;refine h {s with heap:=h'} ⟨I.ok,I.os,I.bare,⟨fun b o e n hb hx=>?_,fun b o e n hb hx=>?_,I.base.free,fun b o e hx=>?_,I.base.tups,I.base.frzs,I.base.tbls⟩,⟨m,hn.sameBut hs (Ne.symm (cne x c hc)),fun j y v' e1 e2 e3=>?_⟩,fun y c' e=>?_,I.free,I.freeC,fun p hp=>?_,tracked ⟨oc,hoc,I.freeC x c hc⟩ hs,by simpa using I.len⟩ ⟨c,hs,.inr hc⟩
  ·exact(hs.2 b (Nat.ne_of_lt (Nat.lt_of_lt_of_le (Heap.lt_size e) (I.ok.cab x c hfn hc)))).trans (I.base.keep b o e n hb hx)
  ·obtain⟨sl,e1⟩:=I.base.slot b o e n hb hx;exact⟨sl,(hs.2 b (Nat.ne_of_lt (Nat.lt_of_lt_of_le (Heap.lt_size e) (I.ok.cab x c hfn hc)))).trans e1⟩
  ·obtain⟨o',e1⟩:=I.base.there b o e hx;exact⟨o',(hs.2 b (Nat.ne_of_lt (Nat.lt_of_lt_of_le (Heap.lt_size e) (I.ok.cab x c hfn hc)))).trans e1⟩
  ·by_cases hj:j=i
   ·subst hj;rw[hi]at e1;cases e1;rw[List.getElem?_set_self hiσ]at e2;cases e2;exact⟨u,r,.inr ⟨.inl hk,c,hc,hc'⟩⟩
   ·rw[List.getElem?_set_ne (Ne.symm hj)]at e2;obtain⟨u',r',q⟩:=hl j y v' e1 e2 e3;refine⟨u',r',?_⟩;rcases q with q | ⟨k,c',e,z'⟩
    ·exact .inl q
    ·refine .inr ⟨k,c',e,z'.sameBut hs ?_⟩;rintro rfl;exact hj (Yz hN e1 (I.ok.inj _ _ _ e hc▸hi))
  ·by_cases hcc:c'=c
   ·subst hcc;exact⟨_,hc'⟩
   ·obtain⟨w2,z2⟩:=I.cell y c' e;exact⟨w2,z2.sameBut hs hcc⟩
  ·obtain⟨e,n,ne,nf,d⟩:=I.pin p hp;refine⟨(hs.2 p.1 ?_).trans e,n,ne,nf,d⟩;intro q;rw[q,hoc]at e;have q':oc=p.2:=Option.some.inj e;exact d w' (by rw[<-q'];exact hocd)
theorem YR{M:Model}{A:Around}{E:Value->Shared->Prop}{i:Nat}{x:Str}{v:V}{u:Value}{Q:Unit->Shared->Prop}(I:Inv X pins σ H s)(hN:X.N.Nodup)(hi:X.N[i]?=some x)(hx:Loc X.env.scope x)(r:RelV v u)
  (h:∀s',Inv X pins (σ.set i (some v)) H s'->Q () s') (hf:X.fn x=true\/X.env.scope.names.lookup x=some .local:=by first | exact .inl rfl | exact .inr rfl | assumption):wpAny M A (storeName X.env x u) Q E s:=
 yy I hN hi hx r (fun s' I' _=>h s' I') hf
theorem Inv.call'{s':Shared}{ch:List Addr}(I:Inv X pins σ H s)(ho:s'.os=s.os)(u:Un (frs X.stack) ch H H' s.heap s'.heap)(hok:HOk X.prog X.w H' s'.heap)(hg:AllBare s'.gens)
  (hch:∀b∈ch,(b∈X.ex\/X.s₀.heap.objs.size<=b)/\b≠X.env.locals/\(∀x c,X.env.cells.lookup x=some c->c≠b)/\∀p∈X.pn++pins,p.1≠b):Inv X pins σ H' s':=by
 obtain⟨h',g',d',t',o'⟩:=s';have e:o'=s.os:=ho;subst e;exact I.call (g':=g') (t':=t') (d':=d') u hok hg hch
end
noncomputable abbrev XK:=Value->Option Addr->Hp->Prop
noncomputable abbrev St:=List (Option V)
noncomputable abbrev VK:=V->Hp->Prop
noncomputable abbrev TE:=St->Hp->VK->Prop
noncomputable abbrev TT:=St->Hp->(Bool->Hp->Prop)->Prop
noncomputable abbrev TA:=St->Hp->(List V->Hp->Prop)->Prop
structure Ends where
 nx:St->Hp->Prop
 rt:VK
 bk:St->Hp->Prop:=fun _ _=>False
 ct:St->Hp->Prop:=fun _ _=>False
noncomputable abbrev TS:=Ends->St->Hp->Prop
def EP(X:Cx)(pins:List (Addr×Obj))(σ:St)(Q:VK)(u:Value)(s':Shared):Prop:=∃v H',Inv X pins σ H' s'/\RelV v u/\Q v H'
def TP(X:Cx)(pins:List (Addr×Obj))(σ:St)(Q:Bool->Hp->Prop)(b:Bool)(s':Shared):Prop:=∃H',Inv X pins σ H' s'/\Q b H'
def AP(X:Cx)(pins:List (Addr×Obj))(σ:St)(Q:List V->Hp->Prop)(us:List Value)(s':Shared):Prop:=∃vs H',Inv X pins σ H' s'/\Vals vs us/\Q vs H'
def SP(X:Cx)(pins:List (Addr×Obj))(D:Ends)(f:Flow)(s':Shared):Prop:=
 match f with
 | .next=>∃σ' H',Inv X pins σ' H' s'/\D.nx σ' H'
 | .brk=>∃σ' H',Inv X pins σ' H' s'/\D.bk σ' H'
 | .cont=>∃σ' H',Inv X pins σ' H' s'/\D.ct σ' H'
 | .ret u=>∃v σ' H',Inv X pins σ' H' s'/\RelV v u/\D.rt v H'
def PE(X:Cx)(e:Expr)(t:TE):Prop:=
 ∀(pins:List (Addr×Obj)) (s:Shared) (σ:St) (H:Hp) (Q:VK),Inv X pins σ H s->t σ H Q->wpAny (model X.prog X.w) X.A (eval e X.env) (EP X pins σ Q) X.xe s
def PT(X:Cx)(e:Expr)(t:TT):Prop:=
 ∀(pins:List (Addr×Obj)) (s:Shared) (σ:St) (H:Hp) (Q:Bool->Hp->Prop),Inv X pins σ H s->t σ H Q->wpAny (model X.prog X.w) X.A (isTrue e X.env (eval e X.env)) (TP X pins σ Q) X.xe s
def PW(X:Cx)(e:Expr)(t:TT):Prop:=
 ∀(whole:Sem Value) (pins:List (Addr×Obj)) (s:Shared) (σ:St) (H:Hp) (Q:Bool->Hp->Prop),Inv X pins σ H s->t σ H Q->wpAny (model X.prog X.w) X.A (isTrue e X.env whole) (TP X pins σ Q) X.xe s
theorem PW.pt{X:Cx}{e:Expr}{t:TT}(h:PW X e t):PT X e t:=h _
def PA(X:Cx)(es:List Expr)(t:TA):Prop:=
 ∀(pos:Pos) (pins:List (Addr×Obj)) (s:Shared) (σ:St) (H:Hp) (Q:List V->Hp->Prop),Inv X pins σ H s->t σ H Q->wpAny (model X.prog X.w) X.A (spliced (backTo pos (starEach es X.env))) (AP X pins σ Q) X.xe s
def PS(X:Cx)(st:Stmt)(t:TS):Prop:=
 ∀(pins:List (Addr×Obj)) (s:Shared) (σ:St) (H:Hp) (D:Ends),Inv X pins σ H s->t D σ H->wpAny (model X.prog X.w) X.A (exec st X.env) (SP X pins D) X.xe s
def PSs(X:Cx)(st:List Stmt)(t:TS):Prop:=
 ∀(pins:List (Addr×Obj)) (s:Shared) (σ:St) (H:Hp) (D:Ends),Inv X pins σ H s->t D σ H->wpAny (model X.prog X.w) X.A (execs st X.env) (SP X pins D) X.xe s
theorem thn{α:Type}{t:Sem α}{Q Q':α->Shared->Prop}{M:Model}{A:Around}{E:Value->Shared->Prop}{s:Shared}(h:wpAny M A t Q E s)(hQ:∀a s,Q a s->Q' a s):wpAny M A t Q' E s:=wpAny_mono h hQ fun _ _ x=>x
section
variable{X:Cx}
def tVar(i:Nat):TE:=fun σ H Q=>∃v,σ[i]?=some (some v)/\Q v H
def tC(v:V):TE:=fun _ H Q=>Q v H
theorem xx{i:Nat}{x:Str}{pos:Pos}(hN:X.N[i]?=some x)(hv:Vis X.env.scope x)(hd:(x==("__debug__" : Str))=false:=by decide)(hcd:(x==("__classdict__" : Str))=false:=by decide):PE X (.Name x pos) (tVar i):=by
 intro pins s σ H Q I h;obtain⟨v,e,h⟩:=h;obtain⟨m,hn,hl⟩:=I.loc;obtain⟨u,r,l⟩:=hl i x v hN e hv;have fin:EP X pins σ Q u s:=⟨v,H,I,r,h⟩
 rcases l with⟨hk,hm⟩ | ⟨hk,c,hc,hcell⟩
 ·exact wpAny_Name (wpAny_loadName_local I.ok.kind hk hn hm fin) hd
 ·rcases hk with hk | hk
  ·exact wpAny_Name (wpAny_loadName_cell I.ok.kind hk hc hcell fin) hd
  ·exact wpAny_Name (wpAny_loadName_free I.ok.kind hk hc hcell fin hcd) hd
theorem jb{i j pos}:PE X (.Constant (.int i) j pos) (tC (.int i)):=fun _ _ _ H _ I h=>wpAny_Constant_int ⟨.int i,H,I.tok _,⟨_,rfl⟩,h⟩
theorem WV{b j pos}:PE X (.Constant (.bool b) j pos) (tC (.bl b)):=fun _ _ _ H _ I h=>Constant_bool ⟨.bl b,H,I,rfl,h⟩
theorem jr{x j pos}:PE X (.Constant (.str x) j pos) (tC (.str x)):=fun _ _ _ H _ I h=>Calls.Constant_str ⟨.str x,H,I.tok _,⟨_,rfl⟩,h⟩
def Gl(X:Cx)(x:Str):Prop:=X.env.kindOf x=some .globalImplicit
theorem kK{E:Value->Shared->Prop}{pins:List (Addr×Obj)}{s:Shared}{σ:St}{H:Hp}{x:Str}{u:Value}{pos:Pos}{Q:Value->Shared->Prop}(I:Inv X pins σ H s)(hg:Gl X x)(hm:X.mg x=some u)(h:Q u s)
  (hd:(x==("__debug__" : Str))=false:=by decide):wpAny (model X.prog X.w) X.A (eval (.Name x pos) X.env) Q E s:=
 Calls.Name_function_global I.ok.kind hg (Calls.loadGlobal_global (by rw[I.ok.glob];exact I.mod.glob.keeps I.bk) hm h) hd
theorem QE{E:Value->Shared->Prop}{pins:List (Addr×Obj)}{s:Shared}{σ:St}{H:Hp}{x:Str}{u:Value}{pos:Pos}{Q:Value->Shared->Prop}(I:Inv X pins σ H s)(hg:Gl X x)(hm:X.mg x=none)(hv:bootBuiltins x=some u)(h:Q u s)
  (hn:x≠"__name__":=by decide) (hd:(x==("__debug__" : Str))=false:=by decide):wpAny (model X.prog X.w) X.A (eval (.Name x pos) X.env) Q E s:=by
 obtain⟨mb,h1,h2⟩:=I.mod.blt;exact Calls.Name_function_global I.ok.kind hg (Calls.loadGlobal_builtin (by rw[I.ok.glob];exact I.mod.glob.keeps I.bk) hm (by rw[I.ok.blt];exact h1.keeps I.bk) ((h2 x hn).trans hv) h) hd
theorem Wy{x:Str}{v:V}{u:Value}{pos:Pos}(hg:Gl X x)(hm:X.mg x=some u)(r:RelV v u)(hd:(x==("__debug__" : Str))=false:=by decide):PE X (.Name x pos) (tC v):=
 fun _ _ _ H _ I h=>kK I hg hm ⟨v,H,I,r,h⟩ hd
theorem Wx{x:Str}{v:V}{u:Value}{pos:Pos}(hg:Gl X x)(hm:X.mg x=none)(hv:bootBuiltins x=some u)(r:RelV v u)(hn:x≠"__name__":=by decide)(hd:(x==("__debug__" : Str))=false:=by decide):PE X (.Name x pos) (tC v):=
 fun _ _ _ H _ I h=>QE I hg hm hv ⟨v,H,I,r,h⟩ hn hd
variable{a b:Expr}{ta tb:TE}{pos:Pos}
def PC(X:Cx)(op:CmpOp)(a b:Expr)(t:TE):Prop:=
 ∀(pins:List (Addr×Obj)) (s:Shared) (σ:St) (H:Hp) (Q:VK),Inv X pins σ H s->t σ H Q->
  wpAny (model X.prog X.w) X.A (eval a X.env) (fun v s₁=>wpAny (model X.prog X.w) X.A (eval b X.env) (fun u s₂=>wpAny (model X.prog X.w) X.A (compareOp op v u) (EP X pins σ Q) X.xe s₂) X.xe s₁) X.xe s
def tB(t:TE):TT:=fun σ H Q=>t σ H fun x H1=>∃c,x = .bl c/\Q c H1
theorem xy{op:CmpOp}{t:TE}(h:PC X op a b t)(h1:behindInMarks op b=false:=by first | exact nobehind _ (by decide) (by decide) | rfl):PT X (.Compare a [op] [b] pos) (tB t):=by
 intro pins s σ H Q I hw;refine wpAny_isTrue_Compare1 (thn (h pins s σ H _ I hw) fun v s1 h1=>thn h1 fun u s2 h2=>thn h2 fun c s3 ⟨x,H1,I1,r1,q1⟩=>?_) h1;obtain⟨d,rfl,q⟩:=q1;cases r1;exact wpAny_truthy_bool ⟨H1,I1,q⟩
variable{tA tB':TT}{rest:List Expr}
def tAnd(t u:TT):TT:=fun σ H Q=>t σ H fun c H1=>if c=true then u σ H1 Q else Q false H1
def tOr(t u:TT):TT:=fun σ H Q=>t σ H fun c H1=>if c=true then Q true H1 else u σ H1 Q
theorem Zq(ha:PT X a tA):PW X (.BoolOp .And [a] pos) tA:=by
 intro wh pins s σ H Q I h;refine isTrue_and (thn (ha pins s σ H Q I h) fun c s1 e=>?_);cases c with
 | true=>exact isTrue_and_nil e
 | false=>exact e
theorem wH(ha:PT X a tA):PW X (.BoolOp .Or [a] pos) tA:=by
 intro wh pins s σ H Q I h;refine isTrue_or (thn (ha pins s σ H Q I h) fun c s1 e=>?_);cases c with
 | false=>exact isTrue_or_nil e
 | true=>exact e
theorem yZ(ha:PT X a tA)(hb:PW X (.BoolOp .And (b::rest) pos) tB'):PW X (.BoolOp .And (a::b::rest) pos) (tAnd tA tB'):=by
 intro wh pins s σ H Q I h;refine isTrue_and (thn (ha pins s σ H _ I h) fun c s1 ⟨H1,I1,q1⟩=>?_);cases c with
 | true=>exact hb wh pins s1 σ H1 Q I1 q1
 | false=>exact⟨H1,I1,q1⟩
theorem WW(ha:PT X a tA)(hb:PW X (.BoolOp .Or (b::rest) pos) tB'):PW X (.BoolOp .Or (a::b::rest) pos) (tOr tA tB'):=by
 intro wh pins s σ H Q I h;refine isTrue_or (thn (ha pins s σ H _ I h) fun c s1 ⟨H1,I1,q1⟩=>?_);cases c with
 | true=>exact⟨H1,I1,q1⟩
 | false=>exact hb wh pins s1 σ H1 Q I1 q1
def tAndV(ta tb:TE):TE:=fun σ H Q=>ta σ H fun x H1=>∃c,x = .bl c/\if c=true then tb σ H1 Q else Q (.bl false) H1
theorem wC{op}{t:TE}(h:PE X a t):PE X (.BoolOp op [a] pos) t:=fun pins s σ H Q I hw=>BoolOp_one (h pins s σ H Q I hw)
theorem wz(ha:PE X a ta)(hb:PE X (.BoolOp .And (b::rest) pos) tb):PE X (.BoolOp .And (a::b::rest) pos) (tAndV ta tb):=by
 intro pins s σ H Q I h;refine BoolOp_and (thn (ha pins s σ H _ I h) fun v s1 ⟨x,H1,I1,r1,q1⟩=>?_);obtain⟨c,rfl,q1⟩:=q1;cases r1;refine wpAny_truthy_bool ?_;cases c with
 | true=>exact hb pins s1 σ H1 Q I1 q1
 | false=>exact⟨.bl false,H1,I1,rfl,q1⟩
def tIf(t:TT)(ta tb:TE):TE:=fun σ H Q=>t σ H fun c H1=>if c=true then ta σ H1 Q else tb σ H1 Q
theorem wB{c:Expr}(hc:PT X c tA)(ha:PE X a ta)(hb:PE X b tb):PE X (.IfExp c a b pos) (tIf tA ta tb):=by
 intro pins s σ H Q I h;refine wpAny_IfExp (thn (hc pins s σ H _ I h) fun d s1 ⟨H1,I1,q1⟩=>?_);cases d with
 | true=>exact ha pins s1 σ H1 Q I1 q1
 | false=>exact hb pins s1 σ H1 Q I1 q1
end
def SqL(K:Frg)(H:Hp)(a:Addr)(xs:List V):Prop:=
 Rd H a (.lst xs)\/
  ∃(o:Obj) (its:Array Value) (n:Nat),K.lookup a=some o/\o.cls = .type "list"/\o.dict=none/\o.data = .seq its n/\its.size<=sizeLine/\Vals xs its.toList
def SqT(K:Frg)(H:Hp)(a:Addr)(xs:List V):Prop:=
 Rd H a (.tup xs)\/
  ∃(o:Obj) (its:Array Value) (n:Nat),K.lookup a=some o/\o.cls = .type "tuple"/\o.data = .seq its n/\its.size<=sizeLine/\Vals xs its.toList
noncomputable def absV:Value->Option V
 | .none=>some .non
 | .bool b=>some (.bl b)
 | .int i _=>some (.int i)
 | .str x _=>some (.str x)
 | .bytes b _=>some (.byt b)
 | .float b _=>some (.flt b)
 | .ref a=>some (.ref a)
 | .type n=>some (.ty n)
 | _=>none
theorem RelV.abs{x:V}{u:Value}(r:RelV x u):absV u=some x:=by
 cases x with
 | non=>cases r;rfl
 | bl _=>cases r;rfl
 | int _=>obtain⟨t,rfl⟩:=r;rfl
 | str _=>obtain⟨t,rfl⟩:=r;rfl
 | byt _=>obtain⟨t,rfl⟩:=r;rfl
 | flt _=>obtain⟨t,rfl⟩:=r;rfl
 | ref _=>cases r;rfl
 | ty _=>cases r;rfl
theorem RelV.inj{x y:V}{u:Value}(r:RelV x u)(q:RelV y u):x=y:=Option.some.inj (r.abs.symm.trans q.abs)
theorem Vals.inj:∀{xs ys:List V} {us:List Value},Vals xs us->Vals ys us->xs=ys
 | _,_,_,.nil,.nil=>rfl
 | _,_,_,.cons r t,.cons r' t'=>by rw[r.inj r',Vals.inj t t']
section
variable{X:Cx}{pins:List (Addr×Obj)}{σ:St}{H:Hp}{s:Shared}{a:Addr}{xs ys:List V}
theorem SqL.of{K:Frg}(h:H a=some (.lst xs)):SqL K H a xs:=.inl (.inl h)
theorem SqT.of{K:Frg}(h:H a=some (.tup xs)):SqT K H a xs:=.inl (.inl h)
theorem Inv.list(I:Inv X pins σ H s)(h:SqL X.K H a xs):∃its:List Value,Vals xs its/\PlainL s.heap a its.toArray/\xs.length<=sizeLine:=by
 rcases h with h | ⟨o,its,n,hk,hc,hd,hs,hz,r⟩
 ·obtain⟨z,its,n,r,e⟩:=h.ok I.hok;exact⟨its,r,⟨_,n,e,rfl,rfl,rfl⟩,z⟩
 ·refine⟨its.toList,r,⟨o,n,I.kIn a o hk,hc,hd,by simpa using hs⟩,?_⟩;have e:=r.length;simp only[Array.length_toList]at e;omega
theorem Inv.tuple(I:Inv X pins σ H s)(h:SqT X.K H a xs):∃its:List Value,Vals xs its/\IsTup s.heap a its.toArray/\xs.length<=sizeLine:=by
 rcases h with h | ⟨o,its,n,hk,hc,hs,hz,r⟩
 ·obtain⟨z,its,r,p⟩:=h.ok I.hok;exact⟨its,r,p,z⟩
 ·refine⟨its.toList,r,⟨o,I.kIn a o hk,hc,n,by simpa using hs⟩,?_⟩;have e:=r.length;simp only[Array.length_toList]at e;omega
theorem Inv.list_inj(I:Inv X pins σ H s)(h:SqL X.K H a xs)(h':SqL X.K H a ys):xs=ys:=by
 obtain⟨its,r,⟨o,n,e,_,_,d⟩,_⟩:=I.list h;obtain⟨its',r',⟨o',n',e',_,_,d'⟩,_⟩:=I.list h';rw[e]at e';cases e';rw[d]at d';injection d' with d1 _;have:its=its':=by simpa using congrArg Array.toList d1
 subst this;exact r.inj r'
theorem Inv.tuple_inj(I:Inv X pins σ H s)(h:SqT X.K H a xs)(h':SqT X.K H a ys):xs=ys:=by
 obtain⟨its,r,⟨o,e,_,n,d⟩,_⟩:=I.tuple h;obtain⟨its',r',⟨o',e',_,n',d'⟩,_⟩:=I.tuple h';rw[e]at e';cases e';rw[d]at d';injection d' with d1 _;have:its=its':=by simpa using congrArg Array.toList d1
 subst this;exact r.inj r'
end
noncomputable abbrev Cx.wish(X:Cx)(E:Value->Shared->Prop):Cx:={X with xe:=E}
noncomputable abbrev Cx.nox(X:Cx):Cx:=X.wish fun _ _=>False
theorem Cx.Ok.wish{X:Cx}(ok:X.Ok)(E:Value->Shared->Prop):(X.wish E).Ok:=
 ⟨ok.mod,ok.kind,ok.glob,ok.blt,ok.above,ok.inj,ok.has,ok.cab,ok.hd,ok.frames,ok.stk,ok.exf,ok.bs,ok.bsz,ok.noex,ok.exfs,ok.funs,ok.frf⟩
theorem Cx.Ok.unwish{X:Cx}{E:Value->Shared->Prop}(ok:(X.wish E).Ok):X.Ok:=
 ⟨ok.mod,ok.kind,ok.glob,ok.blt,ok.above,ok.inj,ok.has,ok.cab,ok.hd,ok.frames,ok.stk,ok.exf,ok.bs,ok.bsz,ok.noex,ok.exfs,ok.funs,ok.frf⟩
section
variable{X:Cx}{pins:List (Addr×Obj)}{σ:St}{H:Hp}{s:Shared}{E:Value->Shared->Prop}
theorem Inv.wish(I:Inv X pins σ H s)(E:Value->Shared->Prop):Inv (X.wish E) pins σ H s:=⟨I.ok.wish E,I.os,I.bare,I.base,I.loc,I.cell,I.free,I.freeC,I.pin,I.hok,I.len⟩
theorem Inv.unwish(I:Inv (X.wish E) pins σ H s):Inv X pins σ H s:=⟨I.ok.unwish,I.os,I.bare,I.base,I.loc,I.cell,I.free,I.freeC,I.pin,I.hok,I.len⟩
theorem SP.unwish{D:Ends}{f:Flow}{s':Shared}(h:SP (X.wish E) pins D f s'):SP X pins D f s':=by
 cases f with
 | next=>obtain⟨σ',H',I,q⟩:=h;exact⟨σ',H',I.unwish,q⟩
 | brk=>obtain⟨σ',H',I,q⟩:=h;exact⟨σ',H',I.unwish,q⟩
 | cont=>obtain⟨σ',H',I,q⟩:=h;exact⟨σ',H',I.unwish,q⟩
 | ret u=>obtain⟨v,σ',H',I,r,q⟩:=h;exact⟨v,σ',H',I.unwish,r,q⟩
theorem PSs.nox{st:List Stmt}{t:TS}(h:PSs X.nox st t):PSs X st t:=fun pins s σ H D I hw=>
 wpAny_mono (h pins s σ H D (I.wish _) hw) (fun _ _ q=>q.unwish) fun _ _ z=>False.elim z
end
section
variable{X:Cx}{st:Stmt}{rest:List Stmt}{t u:TS}{e:Expr}{te:TE}{pos:Pos}
def tNext:TS:=fun D σ H=>D.nx σ H
def tSeq(t u:TS):TS:=fun D σ H=>t {D with nx:=u D} σ H
theorem jM:PSs X [] tNext:=fun _ _ σ H _ I h=>wpAny_execs_nil ⟨σ,H,I,h⟩
theorem jd(h1:PS X st t)(h2:PSs X rest u):PSs X (st::rest) (tSeq t u):=by
 intro pins s σ H D I h;refine wpAny_execs_cons (thn (h1 pins s σ H {D with nx:=u D} I h) fun f s1 q=>?_);cases f with
 | next=>
  obtain⟨σ',H',I',q⟩:=q;exact h2 pins s1 σ' H' D I' q
 | ret v=>exact q
 | brk=>exact q
 | cont=>exact q
theorem jg(h1:PS X st t):PSs X [st] t:=by
 intro pins s σ H D I h;refine wpAny_execs_cons (thn (h1 pins s σ H D I h) fun f s1 q=>?_);cases f with
 | next=>exact wpAny_execs_nil q
 | ret v=>exact q
 | brk=>exact q
 | cont=>exact q
def tBreak:TS:=fun D σ H=>D.bk σ H
theorem wF:PS X (.Break pos) tBreak:=fun _ _ σ H _ I h=>wpAny_Break ⟨σ,H,I,h⟩
theorem Inv.quiet{pins:List (Addr×Obj)}{σ:St}{H:Hp}{s:Shared}(I:Inv X pins σ H s):interactive X.env=false:=by simp[interactive,I.ok.kind]
def tDrop(te:TE):TS:=fun D σ H=>te σ H fun _ H1=>D.nx σ H1
theorem jD(he:PE X e te)(hs:swapsWith e none pos.line X.env=pure false:=by rfl):PS X (.Expr e pos) (tDrop te):=by
 intro pins s σ H D I h;exact wpAny_Expr_any (thn (he pins s σ H _ I h) fun v s1 ⟨x,H1,I1,r1,q1⟩=>⟨σ,H1,I1,q1⟩) I.quiet hs
def tRet(te:TE):TS:=fun D σ H=>te σ H D.rt
theorem jH(he:PE X e te):PS X (.Return (some e) pos) (tRet te):=by
 intro pins s σ H D I h;exact wpAny_Return_some (thn (he pins s σ H _ I h) fun v s1 ⟨x,H1,I1,r1,q1⟩=>⟨x,σ,H1,I1,r1,q1⟩)
def tRetN:TS:=fun D _ H=>D.rt .non H
theorem WA:PS X (.Return none pos) tRetN:=fun _ _ σ H _ I h=>wpAny_Return_none ⟨.non,σ,H,I,rfl,h⟩
def tIfS(c:TT)(t u:TS):TS:=fun D σ H=>c σ H fun b H1=>if b=true then t D σ H1 else u D σ H1
theorem Jt{c:Expr}{a b:List Stmt}{tc:TT}(hc:PT X c tc)(ha:PSs X a t)(hb:PSs X b u):PS X (.If c a b pos) (tIfS tc t u):=by
 intro pins s σ H D I h;refine wpAny_If (thn (hc pins s σ H _ I h) fun d s1 ⟨H1,I1,q1⟩=>?_);cases d with
 | true=>exact ha pins s1 σ H1 D I1 q1
 | false=>exact hb pins s1 σ H1 D I1 q1
end
noncomputable abbrev TG:=V->St->Hp->(St->Hp->Prop)->Prop
noncomputable abbrev TGs:=List V->St->Hp->(St->Hp->Prop)->Prop
def PG(X:Cx)(target:Expr)(t:TG):Prop:=
 ∀(pins:List (Addr×Obj)) (s:Shared) (σ:St) (H:Hp) (v:V) (u:Value) (Q:St->Hp->Prop),Inv X pins σ H s->RelV v u->t v σ H Q->
  wpAny (model X.prog X.w) X.A (assign target X.env u) (fun _ s'=>∃σ' H',Inv X pins σ' H' s'/\Q σ' H') X.xe s
def PGs(X:Cx)(ts:List Expr)(t:TGs):Prop:=
 ∀(pins:List (Addr×Obj)) (s:Shared) (σ:St) (H:Hp) (vs:List V) (us:List Value) (Q:St->Hp->Prop),Inv X pins σ H s->Vals vs us->t vs σ H Q->
  wpAny (model X.prog X.w) X.A (assignInOrder ((assignEach ts X.env).map (·.2)) us) (fun _ s'=>∃σ' H',Inv X pins σ' H' s'/\Q σ' H') X.xe s
section
variable{X:Cx}{pos:Pos}
def gName(i:Nat):TG:=fun v σ H Q=>Q (σ.set i (some v)) H
theorem jv{i:Nat}{x:Str}(hN:X.N.Nodup)(hi:X.N[i]?=some x)(hx:Loc X.env.scope x)(hf:X.fn x=true\/X.env.scope.names.lookup x=some .local:=by first | exact .inl rfl | exact .inr rfl | assumption):PG X (.Name x pos) (gName i):=by
 intro pins s σ H v u Q I r h;exact wpAny_assign_Name (YR I hN hi hx r (fun s' I'=>⟨_,H,I',h⟩) hf)
def gNil:TGs:=fun vs σ H Q=>vs=[]/\Q σ H
def gCons(t:TG)(u:TGs):TGs:=fun vs σ H Q=>∃v r,vs=v::r/\t v σ H fun σ' H'=>u r σ' H' Q
theorem zG:PGs X [] gNil:=by
 intro pins s σ H vs us Q I r h;obtain⟨e,h⟩:=h;subst e;cases r;exact assignInOrder_nil ⟨σ,H,I,h⟩
theorem J1{e:Expr}{es:List Expr}{t:TG}{u:TGs}(h1:PG X e t)(h2:PGs X es u)
  (hs:(assignEach (e::es) X.env).map (·.2)=assign e X.env::(assignEach es X.env).map (·.2):=by rfl):PGs X (e::es) (gCons t u):=by
 intro pins s σ H vs us Q I r h;obtain⟨v,vr,e1,h⟩:=h;subst e1;cases r with
 | cons r rr=>
  rw[hs];refine assignInOrder_cons (thn (h1 pins s σ H _ _ _ I r h) fun _ s1 ⟨σ1,H1,I1,q1⟩=>?_);exact h2 pins s1 σ1 H1 _ _ Q I1 rr q1
def gTup(K:Frg)(n:Nat)(t:TGs):TG:=fun v σ H Q=>∃a xs,v = .ref a/\SqT K H a xs/\xs.length=n/\t xs σ H Q
theorem ZP{es:List Expr}{k:Nat}{t:TGs}{n:Nat}(hc:X.calm=true)(h:PGs X es t)
  (hn:(assignEach es X.env).length=n:=by rfl) (hst:(assignEach es X.env).findIdx? (·.1)=none:=by rfl):PG X (.Tuple es k pos) (gTup X.K n t):=by
 intro pins s σ H v u Q I r hw;obtain⟨a,xs,e1,hq,hl,hw⟩:=hw;subst e1;cases r;obtain⟨its,rv,ht,hz⟩:=I.tuple hq;refine assign_Tuple_tuple (I.ok.hd hc) ht (by simp[hn,<-hl,rv.length]) hst fun h' hx=>?_
 have I1:Inv X pins σ H {s with heap:=h'}:=I.kept (t':=s.toks) fun b o e=>hx b o (Nat.ne_of_lt (Heap.lt_size e)) e
 exact h pins _ σ H xs _ Q I1 (by simpa using rv) hw
def tAsg(te:TE)(g:TG):TS:=fun D σ H=>te σ H fun x H1=>g x σ H1 D.nx
theorem jj{i:Nat}{x:Str}{e:Expr}{te:TE}{pos':Pos}(hN:X.N.Nodup)(hi:X.N[i]?=some x)(hx:Loc X.env.scope x)(he:PE X e te)(hs:swapsWith e (some (.Name x pos')) pos.line X.env=pure false:=by rfl)(hf:X.fn x=true\/X.env.scope.names.lookup x=some .local:=by first | exact .inl rfl | exact .inr rfl | assumption) :
  PS X (.Assign [.Name x pos'] e pos) (tAsg te (gName i)):=by
 intro pins s σ H D I h;refine wpAny_Assign_Name (thn (he pins s σ H _ I h) fun v s1 ⟨y,H1,I1,r1,q1⟩=>?_) hs;exact YR I1 hN hi hx r1 (fun s2 I2=>⟨_,H1,I2,q1⟩) hf
end
section
variable{X:Cx}{pos:Pos}
def tWhile(c:TT)(tb:TS):TS:=fun D σ H=>∃W:Nat->St->Hp->Prop,(∃m,W m σ H)/\∀m σ H,W m σ H->
 c σ H fun b H1=>if b=true then∃N:St->Hp->Prop,(∀σ' H',N σ' H'->∃m',m'<m/\W m' σ' H')/\tb {D with nx:=N,ct:=N,bk:=D.nx} σ H1 else D.nx σ H1
theorem wG{c:Expr}{body:List Stmt}{tc:TT}{tb:TS}(hp:PassesOwn (model X.prog X.w) X.A X.env X.xe)(hc:PT X c tc)(hb:PSs X body tb):PS X (.While c body [] pos) (tWhile tc tb):=by
 intro pins s σ H D I h;obtain⟨W,⟨m0,w0⟩,turn⟩:=h;refine wpAny_While (codeAny_whileLoop (fun n s'=>∃σ' H',Inv X pins σ' H' s'/\W n σ' H') ?_ m0 ⟨σ,H,I,w0⟩);rintro n s1 ⟨σ1,H1,I1,w1⟩;refine wpAny_passesOwn hp (thn (hc pins s1 σ1 H1 _ I1 (turn n σ1 H1 w1)) fun b s2 ⟨H2,I2,q2⟩=>?_);cases b with
 | true=>
  obtain⟨N,hN,q2⟩:=q2;rw[if_pos rfl];refine wpAny_passesOwn hp (thn (hb pins s2 σ1 H2 _ I2 q2) fun f s3 q3=>?_);cases f with
  | next=>
   obtain⟨σ3,H3,I3,n3⟩:=q3;obtain⟨m',hm,w3⟩:=hN σ3 H3 n3;exact⟨m',hm,σ3,H3,I3,w3⟩
  | cont=>
   obtain⟨σ3,H3,I3,n3⟩:=q3;obtain⟨m',hm,w3⟩:=hN σ3 H3 n3;exact⟨m',hm,σ3,H3,I3,w3⟩
  | brk=>exact q3
  | ret v=>exact q3
 | false=>
  rw[if_neg Bool.false_ne_true];exact wpAny_execs_nil ⟨σ1,H2,I2,q2⟩
end
structure It where
 go:Nat->Hp->Prop
 yld:Nat->Hp->V->Hp->Prop
 stop:Nat->Hp->Prop
def FpOk(X:Cx)(pins:List (Addr×Obj))(H:Hp)(b:Addr):Prop:=
 H b=none/\b≠X.env.locals/\b∉X.fs/\(b∈X.ex\/X.s₀.heap.objs.size<=b)/\(∀x c,X.env.cells.lookup x=some c->c≠b)/\∀p∈X.pn++pins,p.1≠b
theorem Inv.fpOk{X:Cx}{pins:List (Addr×Obj)}{σ:St}{H H':Hp}{s:Shared}{b:Addr}(I:Inv X pins σ H s)(hb:s.heap.objs.size<=b)(hn:H' b=none):FpOk X pins H' b:=by
 refine⟨hn,Nat.ne_of_gt (Nat.lt_of_lt_of_le I.lt hb),I.nofs hb,.inr (Nat.le_trans I.sz hb),fun x c e z=>?_,fun p hp z=>?_⟩
 ·obtain⟨v,q⟩:=I.cell x c e;exact absurd (Nat.lt_of_lt_of_le q.lt (by rw[z];exact hb)) (Nat.lt_irrefl _)
 ·exact absurd (Nat.lt_of_lt_of_le (Heap.lt_size (I.pin p hp).1) (by rw[z];exact hb)) (Nat.lt_irrefl _)
structure Turn(P:Program)(w:World)(K:Frg)(tg:Expr)(J:It)(fp:List Addr)(it:Addr)(tn:Nat->Heap->Prop):Prop where
 mem:it∈fp
 obj:∀i h,tn i h->∀b∈fp,∃o,h.get? b=some o/\∀v,o.data≠.cell v
 keep:∀i h h',tn i h->(∀b∈fp,∀o,h.get? b=some o->h'.get? b=some o)->tn i h'
 item:∀(X:Cx),X.prog=P->X.w=w->X.K=K->X.calm=true->∀(i:Nat) (pins:List (Addr×Obj)) (s:Shared) (σ:St) (H:Hp) (E:Value->Shared->Prop),Inv X pins σ H s->(∀b∈fp,FpOk X pins H b)->tn i s.heap->J.go i H->
  wpAny (model P w) X.A (pyNext (.ref it)) (fun r s1=>∃u,r=some u/\
   wpAny (model P w) X.A (letOwnedTupleGo tg (.ref it) u) (fun _ s2=>∃x H',Inv X pins σ H' s2/\RelV x u/\J.yld i H x H'/\tn (i+1) s2.heap/\∀b∈fp,H' b=none) E s1) E s
 done:∀(X:Cx),X.prog=P->X.w=w->X.K=K->X.calm=true->∀(i:Nat) (pins:List (Addr×Obj)) (s:Shared) (σ:St) (H:Hp) (E:Value->Shared->Prop),Inv X pins σ H s->(∀b∈fp,FpOk X pins H b)->tn i s.heap->J.stop i H->
  wpAny (model P w) X.A (pyNext (.ref it)) (fun r s1=>r=none/\Inv X pins σ H s1) E s
 self:∀(A:Around) (i:Nat) (s:Shared) (Q:Value->Shared->Prop) (E:Value->Shared->Prop),tn i s.heap->Q (.ref it) s->wpAny (model P w) A (pyIter (.ref it)) Q E s
noncomputable abbrev TI:=St->Hp->(It->Hp->Prop)->Prop
def PIE(X:Cx)(pins:List (Addr×Obj))(σ:St)(tg:Expr)(R:It->Hp->Prop)(itv:Value)(s2:Shared):Prop:=
 ∃(it:Addr) (fp:List Addr) (tn:Nat->Heap->Prop) (J:It) (H':Hp),itv = .ref it/\Inv X pins σ H' s2/\Turn X.prog X.w X.K tg J fp it tn/\tn 0 s2.heap/\(∀b∈fp,FpOk X pins H' b)/\R J H'
def PI(X:Cx)(tg iter:Expr)(wi:TI):Prop:=
 ∀(pins:List (Addr×Obj)) (s:Shared) (σ:St) (H:Hp) (R:It->Hp->Prop),Inv X pins σ H s->wi σ H R->
  wpAny (model X.prog X.w) X.A (eval iter X.env) (fun v s1=>wpAny (model X.prog X.w) X.A (pyIter v) (PIE X pins σ tg R) X.xe s1) X.xe s
theorem Yn{M:Model}{A:Around}{E:Value->Shared->Prop}{s:Shared}{tg:Expr}{it:Addr}{u:Value}{o:Obj}{n:String}{vs:Array Value}{Q:Unit->Shared->Prop}(ho:s.heap.get? it=some o)(hc:o.cls = .type n)(hd:o.data = .fields vs)
    (hn:["enumerate","zip","dict_itemiterator","dict_reverseitemiterator","odict_iterator","itertools.zip_longest","itertools.pairwise"].contains n=false) (hQ:Q () s):wpAny M A (letOwnedTupleGo tg (.ref it) u) Q E s:=by
  unfold letOwnedTupleGo;cases tg<;>first
    | exact wpAny_pure hQ
    | (cases u<;>first
        | exact wpAny_pure hQ
        | (refine wpAny_bind (wpAny_load ho ?_)
           rw[hc,hd];show wpAny M A (if(["enumerate","zip","dict_itemiterator","dict_reverseitemiterator","odict_iterator","itertools.zip_longest","itertools.pairwise"].contains n&&vs[0]?==some (rawInt _))=true then _ else _) Q E s;rw[if_neg (by intro h;rw[hn,Bool.false_and]at h;cases h)];exact wpAny_pure hQ))
def Itl(K:Frg)(a:Addr):It:=
 ⟨fun i H=>∃xs x,SqL K H a xs/\xs[i]?=some x,fun i H x H'=>H'=H/\∀xs,SqL K H a xs->xs[i]?=some x,fun i H=>∃xs,SqL K H a xs/\xs.length<=i⟩
def Itt(K:Frg)(a:Addr):It:=
 ⟨fun i H=>∃xs x,SqT K H a xs/\xs[i]?=some x,fun i H x H'=>H'=H/\∀xs,SqT K H a xs->xs[i]?=some x,fun i H=>∃xs,SqT K H a xs/\xs.length<=i⟩
def Itr(lo:Int)(n:Nat):It:=⟨fun i _=>i<n,fun i H x H'=>H'=H/\x = .int (lo+i),fun i _=>n<=i⟩
theorem KN{P:Program}{w:World}{K:Frg}{tg:Expr}(a it:Addr):Turn P w K tg (Itl K a) [it] it (fun i h=>h.IsListIter it a i) where
 mem:=by simp
 obj:=fun i h st b hb=>by
  have e:b=it:=by simpa using hb
  subst e;obtain⟨o,e,c,d⟩:=st;exact⟨o,e,fun v z=>by rw[d]at z;cases z⟩
 keep:=fun i h h' st k=>st.at fun o e=>k it (by simp) o e
 item:=by
  intro X hP hw hK hc i pins s σ H E I hf st hg;subst hP hw hK;obtain⟨xs,x,hq,hx⟩:=hg;obtain⟨its,rv,p,hz⟩:=I.list hq;obtain⟨u,hu,ru⟩:=rv.get hx;obtain⟨f0,f1,f2,f3,f4,f5⟩:=hf it (by simp);refine wpAny_pyNext_list_item st p.isList (x:=u) (by simpa using hu) fun h' st' sb=>?_
  have I1:Inv X pins σ H {s with heap:=h'}:=I.turned (t':=s.toks) (fun b o hb e=>(sb.2 b hb).trans e) f0 f1 f3 f4 f5;obtain⟨o,e,c,d⟩:=id st';exact⟨u,rfl,Yn (s:={s with heap:=h'}) e c d (by decide) ⟨x,H,I1,ru,⟨rfl,fun ys hy=>by rw[I.list_inj hy hq];exact hx⟩,st',fun b hb=>(hf b hb).1⟩⟩
 done:=by
  intro X hP hw hK hc i pins s σ H E I hf st hg;subst hP hw hK;obtain⟨xs,hq,hx⟩:=hg;obtain⟨its,rv,p,hz⟩:=I.list hq;obtain⟨f0,f1,f2,f3,f4,f5⟩:=hf it (by simp);have hl:=rv.length;exact wpAny_pyNext_list_end (I.ok.hd hc) st p.isList (by simp;omega) fun h' eb=>⟨rfl,I.turned (t':=s.toks) (fun b o hb e=>eb b o hb e) f0 f1 f3 f4 f5⟩
 self:=fun _ _ _ _ _ st h=>wpAny_pyIter_listiter st h
theorem kt{P:Program}{w:World}{K:Frg}{tg:Expr}(a it:Addr):Turn P w K tg (Itt K a) [it] it (fun i h=>h.IsTupleIter it a i) where
 mem:=by simp
 obj:=fun i h st b hb=>by
  have e:b=it:=by simpa using hb
  subst e;obtain⟨o,e,c,d⟩:=st;exact⟨o,e,fun v z=>by rw[d]at z;cases z⟩
 keep:=fun i h h' st k=>st.at fun o e=>k it (by simp) o e
 item:=by
  intro X hP hw hK hc i pins s σ H E I hf st hg;subst hP hw hK;obtain⟨xs,x,hq,hx⟩:=hg;obtain⟨its,rv,p,hz⟩:=I.tuple hq;obtain⟨u,hu,ru⟩:=rv.get hx;obtain⟨f0,f1,f2,f3,f4,f5⟩:=hf it (by simp);refine wpAny_pyNext_tuple_item st (show s.heap.IsTuple a its.toArray from p) (x:=u) (by simpa using hu) fun h' st' sb=>?_
  have I1:Inv X pins σ H {s with heap:=h'}:=I.turned (t':=s.toks) (fun b o hb e=>(sb.2 b hb).trans e) f0 f1 f3 f4 f5;obtain⟨o,e,c,d⟩:=id st';exact⟨u,rfl,Yn (s:={s with heap:=h'}) e c d (by decide) ⟨x,H,I1,ru,⟨rfl,fun ys hy=>by rw[I.tuple_inj hy hq];exact hx⟩,st',fun b hb=>(hf b hb).1⟩⟩
 done:=by
  intro X hP hw hK hc i pins s σ H E I hf st hg;subst hP hw hK;obtain⟨xs,hq,hx⟩:=hg;obtain⟨its,rv,p,hz⟩:=I.tuple hq;obtain⟨f0,f1,f2,f3,f4,f5⟩:=hf it (by simp);have hl:=rv.length;exact wpAny_pyNext_tuple_end (I.ok.hd hc) st (show s.heap.IsTuple a its.toArray from p) (by simp;omega) fun h' eb=>⟨rfl,I.turned (t':=s.toks) (fun b o hb e=>eb b o hb e) f0 f1 f3 f4 f5⟩
 self:=fun _ _ _ _ _ st h=>wpAny_pyIter_tupleiter st h
theorem kr{P:Program}{w:World}{K:Frg}{tg:Expr}(it:Addr)(lo:Int)(n:Nat):Turn P w K tg (Itr lo n) [it] it (fun i h=>IsRangeIter h it (lo+(i:Nat)*1) ((n:Int)-(i:Nat)) 1) where
 mem:=by simp
 obj:=fun i h st b hb=>by
  have e:b=it:=by simpa using hb
  subst e;exact⟨_,st,fun v z=>by
   have z':Data.fields _=Data.cell v:=z;cases z'⟩
 keep:=fun i h h' st k=>k it (by simp) _ st
 item:=by
  intro X hP hw hK hc i pins s σ H E I hf st hg;subst hP hw hK;obtain⟨f0,f1,f2,f3,f4,f5⟩:=hf it (by simp);have W:=Walks.range (prog:=X.prog) (w:=X.w) (I.ok.hd hc) it lo 1 n;refine W.item i s _ _ hg st fun v h' tk hv st' kk=>?_
  obtain⟨t,rfl⟩:=hv;have I1:Inv X pins σ H {s with heap:=h',toks:=tk}:=I.turned (fun b o hb e=>kk b o (by simpa using hb) e) f0 f1 f3 f4 f5;refine⟨_,rfl,Yn (s:={s with heap:=h',toks:=tk}) (n:="range_iterator") st' rfl rfl (by decide) ⟨.int (lo+i),H,I1,⟨t,?_⟩,⟨rfl,rfl⟩,st',fun b hb=>(hf b hb).1⟩⟩;rw[Int.mul_one]
 done:=by
  intro X hP hw hK hc i pins s σ H E I hf st hg;subst hP hw hK;obtain⟨f0,f1,f2,f3,f4,f5⟩:=hf it (by simp);exact wpAny_pyNext_range_end (I.ok.hd hc) st (by have:n<=i:=hg;omega) fun h' eb=>⟨rfl,I.turned (t':=s.toks) (fun b o hb e=>eb b o hb e) f0 f1 f3 f4 f5⟩
 self:=fun _ _ _ _ _ st h=>wpAny_pyIter_rangeiter st h
section
variable{X:Cx}{tg:Expr}
def iList(K:Frg)(tl:TE):TI:=fun σ H R=>tl σ H fun x H1=>∃a,x = .ref a/\(∃xs,SqL K H1 a xs)/\R (Itl K a) H1
def iTup(K:Frg)(tl:TE):TI:=fun σ H R=>tl σ H fun x H1=>∃a,x = .ref a/\(∃xs,SqT K H1 a xs)/\R (Itt K a) H1
theorem Ji{l:Expr}{tl:TE}(hl:PE X l tl):PI X tg l (iList X.K tl):=by
 intro pins s σ H R I h;refine thn (hl pins s σ H _ I h) fun v s1 ⟨x,H1,I1,r1,q1⟩=>?_
 obtain⟨a,e,⟨xs,hq⟩,q⟩:=q1;subst e;cases r1;obtain⟨its,rv,p,hz⟩:=I1.list hq;refine wpAny_pyIter_list p.isList ?_;refine⟨s1.heap.objs.size,[s1.heap.objs.size],_,_,H1,rfl,I1.kept (t':=s1.toks) fun b o e=>Heap.get?_push_of_some _ e,KN a _,⟨_,Heap.get?_push_size _ rfl,rfl,rfl⟩,fun b hb=>?_,q⟩;have e:b=s1.heap.objs.size:=by simpa using hb
 subst e;exact I1.fpOk (Nat.le_refl _) (I1.hok.fresh (Nat.le_refl _))
theorem wD{l:Expr}{tl:TE}(hl:PE X l tl):PI X tg l (iTup X.K tl):=by
 intro pins s σ H R I h;refine thn (hl pins s σ H _ I h) fun v s1 ⟨x,H1,I1,r1,q1⟩=>?_
 obtain⟨a,e,⟨xs,hq⟩,q⟩:=q1;subst e;cases r1;obtain⟨its,rv,p,hz⟩:=I1.tuple hq;refine wpAny_pyIter_tuple (show s1.heap.IsTuple a its.toArray from p) ?_;refine⟨s1.heap.objs.size,[s1.heap.objs.size],_,_,H1,rfl,I1.kept (t':=s1.toks) fun b o e=>Heap.get?_push_of_some _ e,kt a _,⟨_,Heap.get?_push_size _ rfl,rfl,rfl⟩,fun b hb=>?_,q⟩;have e:b=s1.heap.objs.size:=by simpa using hb
 subst e;exact I1.fpOk (Nat.le_refl _) (I1.hok.fresh (Nat.le_refl _))
theorem wI{pins:List (Addr×Obj)}{σ:St}{H:Hp}{s:Shared}{R:It->Hp->Prop}{E:Value->Shared->Prop}{lo hi:Int}{t u v:Tok}{tk:Nat}(I:Inv X pins σ H s)(h1 : -(2^62)<=lo)(h2:lo<2^62)(h3 : -(2^62)<=hi)(h4:hi<2^62)
  (q:R (Itr lo (hi-lo).toNat) H):wpAny (model X.prog X.w) X.A (pyIter (.ref s.heap.objs.size)) (PIE X pins σ tg R) E {s with heap:=s.heap.push {cls:=.type "range",data:=.fields #[.int lo t,.int hi u,.int 1 v]},toks:=tk}:=by
 refine wpAny_pyIter_range (IsRange.new ..) (small_one h1 h2 h3 h4) ?_;have I1:Inv X pins σ H {s with heap:=s.heap.push {cls:=.type "range",data:=.fields #[.int lo t,.int hi u,.int 1 v]},toks:=tk}:=I.kept fun b o e=>Heap.get?_push_of_some _ e
 refine⟨(s.heap.push {cls:=.type "range",data:=.fields #[.int lo t,.int hi u,.int 1 v]}).objs.size,[(s.heap.push {cls:=.type "range",data:=.fields #[.int lo t,.int hi u,.int 1 v]}).objs.size],_,_,H,rfl,
  I1.kept (t':=tk) fun b o e=>Heap.get?_push_of_some _ e,kr _ lo (hi-lo).toNat,?_,fun b hb=>?_,q⟩
 ·have e1:lo+((0:Nat):Int)*1=lo:=by simp
  have e2:(((hi-lo).toNat:Nat):Int)-((0:Nat):Int)=Builtin.Range.rangeSize lo hi 1:=by rw[rangeSize_one];split<;>omega
  show IsRangeIter _ _ (lo+((0:Nat):Int)*1) ((((hi-lo).toNat:Nat):Int)-((0:Nat):Int)) 1;rw[e1,e2];exact Heap.get?_push_size _ rfl
 ·have e:b=(s.heap.push {cls:=.type "range",data:=.fields #[.int lo t,.int hi u,.int 1 v]}).objs.size:=by simpa using hb
  subst e;exact I1.fpOk (Nat.le_refl _) (I1.hok.fresh (Nat.le_refl _))
def iRng1(ta:TA):TI:=fun σ H R=>ta σ H fun vs H1=>∃j:Int,vs=[.int j]/\-(2^62)<=j/\j<2^62/\R (Itr 0 j.toNat) H1
theorem JA{a:Expr}{ta:TA}{p pos:Pos}(hg:Gl X "range")(hm:X.mg "range"= none)(ha:PA X [a] ta)(hs:starEach [a] X.env=[(false,eval a X.env)]:=by rfl):PI X tg (.Call (.Name "range" p) [a] [] pos) (iRng1 ta):=by
 intro pins s σ H R I h;refine Call_ (QE I hg hm boot_range (PyProof.Rows.callWith_type1 (thn (ha pos pins s σ H _ I h) fun us s1 ⟨vs,H1,I1,r1,q1⟩=>?_) hs rfl));obtain⟨j,e,q1,q2,q⟩:=q1;subst e;cases r1 with
 | cons r rr=>
  cases rr;obtain⟨t,rfl⟩:=r;exact call_range_1 (wI I1 (by omega) (by omega) q1 q2 (by simpa using q))
def tFor(wi:TI)(g:TG)(tb:TS):TS:=fun D σ H=>wi σ H fun J H1=>∃W:Nat->Nat->St->Hp->Prop,(∃m,W 0 m σ H1)/\∀i m σ H,W i m σ H->
 (J.stop i H/\D.nx σ H)\/(J.go i H/\∃N:St->Hp->Prop,(∀σ' H',N σ' H'->∃m',m'<m/\W (i+1) m' σ' H')/\∀x H',J.yld i H x H'->g x σ H' fun σ2 H2=>tb {D with nx:=N,ct:=N,bk:=D.nx} σ2 H2)
noncomputable def pinsAt(fp:List Addr)(h:Heap):List (Addr×Obj):=fp.filterMap fun b=>(h.get? b).map fun o=>(b,o)
theorem QF{fp:List Addr}{h:Heap}{b:Addr}{o:Obj}(hb:b∈fp)(e:h.get? b=some o):(b,o)∈pinsAt fp h:=List.mem_filterMap.mpr ⟨b,hb,by rw[e];rfl⟩
theorem Kx{fp:List Addr}{h:Heap}{p:Addr×Obj}(hp:p∈pinsAt fp h):p.1∈fp/\h.get? p.1=some p.2:=by
 obtain⟨b,hb,e⟩:=List.mem_filterMap.mp hp;cases q:h.get? b with
 | none=>rw[q]at e;cases e
 | some o=>
  rw[q]at e;have e':(b,o)=p:=Option.some.inj e;subst e';exact⟨hb,q⟩
theorem Inv.pinned{pins:List (Addr×Obj)}{σ:St}{H:Hp}{s:Shared}{fp:List Addr}(I:Inv X pins σ H s)(hf:∀b∈fp,FpOk X pins H b)(ho:∀b∈fp,∃o,s.heap.get? b=some o/\∀v,o.data≠.cell v):Inv X (pins++pinsAt fp s.heap) σ H s:=
 I.pins_of fun p hp=>(mem_append.mp hp).elim (fun z=>I.pin p (mem_append_right _ z)) fun z=>by
  obtain⟨hb,e⟩:=Kx z;obtain⟨f0,f1,f2,_⟩:=hf p.1 hb;obtain⟨o,e',d⟩:=ho p.1 hb;rw[e]at e';cases e';exact⟨e,f0,f1,f2,d⟩
theorem Inv.unpinned{pins pl:List (Addr×Obj)}{σ:St}{H:Hp}{s:Shared}(I:Inv X (pins++pl) σ H s):Inv X pins σ H s:=I.pins_of fun p hp=>I.pin p (mem_append_right _ (mem_append_left _ hp))
theorem Jp{iter:Expr}{body:List Stmt}{wi:TI}{g:TG}{tb:TS}{pos:Pos}(hp:PassesOwn (model X.prog X.w) X.A X.env X.xe)(hc:X.calm=true)(hi:PI X tg iter wi)(hg:PG X tg g)(hb:PSs X body tb)
  (hs:∀x,foldedSetIterable iter X.env x=pure x:=by intro _;rfl):PS X (.For tg iter body [] pos) (tFor wi g tb):=by
 intro pins s σ H D I h;refine wpAny_For (thn (hi pins s σ H _ I h) fun v s1 h1=>thn h1 fun itv s2 h2=>?_) hs;obtain⟨it,fp,tn,J,H2,e,I2,T,st2,f2,W,⟨m0,w0⟩,turn⟩:=h2;subst e;have stat:∀{H':Hp},(∀b∈fp,H' b=none)->∀b∈fp,FpOk X pins H' b:=fun hn b hb=>⟨hn b hb,(f2 b hb).2⟩
 refine codeAny_forLoop_any (fun n s'=>∃i σ' H',Inv X pins σ' H' s'/\tn i s'.heap/\(∀b∈fp,H' b=none)/\W i n σ' H') ?_ m0 ⟨0,σ,H2,I2,st2,fun b hb=>(f2 b hb).1,w0⟩;rintro n s3 ⟨i,σ3,H3,I3,st3,fr3,w3⟩;rcases turn i n σ3 H3 w3 with⟨stop,qn⟩ | ⟨go,N,hN,step⟩
 ·refine wpAny_passesOwn hp (thn (T.done X rfl rfl rfl hc i pins s3 σ3 H3 X.xe I3 (stat fr3) st3 stop) fun r s4 ⟨hr,I4⟩=>?_);subst hr;exact wpAny_execs_nil ⟨σ3,H3,I4,qn⟩
 ·refine wpAny_passesOwn hp (thn (T.item X rfl rfl rfl hc i pins s3 σ3 H3 X.xe I3 (stat fr3) st3 go) fun r s4 ⟨u,hr,h4⟩=>?_);subst hr;refine wpAny_passesOwn hp (thn h4 fun _ s5 ⟨x,H5,I5,r5,y5,st5,fr5⟩=>?_);have I5':=I5.pinned (stat fr5) (T.obj _ _ st5);refine wpAny_passesOwn hp (thn (hg _ s5 σ3 H5 x u _ I5' r5 (step x H5 y5)) fun _ s6 ⟨σ6,H6,I6,q6⟩=>?_);refine wpAny_passesOwn hp (thn (hb _ s6 σ6 H6 _ I6 q6) fun f s7 q7=>?_);have again:∀{σ7:St} {H7:Hp},Inv X (pins++pinsAt fp s5.heap) σ7 H7 s7->N σ7 H7->∃m,m<n/\∃i σ' H',Inv X pins σ' H' s7/\tn i s7.heap/\(∀b∈fp,H' b=none)/\W i m σ' H':=fun {σ7 H7} I7 n7=>by
   obtain⟨m',hm,w7⟩:=hN σ7 H7 n7;refine⟨m',hm,i+1,σ7,H7,I7.unpinned,T.keep _ _ _ st5 fun b hb o e=>(I7.pin (b,o) (mem_append_right _ (mem_append_right _ (QF hb e)))).1,fun b hb=>?_,w7⟩;obtain⟨o,e,d⟩:=T.obj _ _ st5 b hb;exact(I7.pin (b,o) (mem_append_right _ (mem_append_right _ (QF hb e)))).2.1
  cases f with
  | next=>obtain⟨σ7,H7,I7,n7⟩:=q7;exact again I7 n7
  | cont=>obtain⟨σ7,H7,I7,n7⟩:=q7;exact again I7 n7
  | brk=>obtain⟨σ7,H7,I7,q7⟩:=q7;exact⟨σ7,H7,I7.unpinned,q7⟩
  | ret v=>obtain⟨x7,σ7,H7,I7,r7,q7⟩:=q7;exact⟨x7,σ7,H7,I7.unpinned,r7,q7⟩
end
theorem QQ{K:Frg}{a:Addr}{xs:List V}{g:TG}{tb:TS}{D:Ends}{σ:St}{H:Hp}(Pv:Nat->St->Hp->Prop)(h0:Pv 0 σ H)(hl:∀i σ H,i<=xs.length->Pv i σ H->SqL K H a xs)
  (hs:∀i x σ H,xs[i]?=some x->Pv i σ H->g x σ H fun σ2 H2=>tb {D with nx:=Pv (i+1),ct:=Pv (i+1),bk:=D.nx} σ2 H2) (hd:∀σ H,Pv xs.length σ H->D.nx σ H) :
  ∃W:Nat->Nat->St->Hp->Prop,(∃m,W 0 m σ H)/\∀i m σ H,W i m σ H->
   ((Itl K a).stop i H/\D.nx σ H)\/((Itl K a).go i H/\∃N:St->Hp->Prop,(∀σ' H',N σ' H'->∃m',m'<m/\W (i+1) m' σ' H')/\∀x H',(Itl K a).yld i H x H'->g x σ H' fun σ2 H2=>tb {D with nx:=N,ct:=N,bk:=D.nx} σ2 H2):=by
 refine⟨fun i m σ H=>m=xs.length-i/\i<=xs.length/\Pv i σ H,⟨xs.length,by simp,Nat.zero_le _,h0⟩,?_⟩;rintro i m σ H ⟨rfl,hi,p⟩;have q:=hl i σ H hi p;by_cases hlt:i<xs.length
 ·refine .inr ⟨⟨xs,xs[i],q,by simp[hlt]⟩,Pv (i+1),fun σ' H' p'=>⟨xs.length-(i+1),by omega,rfl,hlt,p'⟩,fun x H' y=>?_⟩;obtain⟨e,y⟩:=y;subst e;exact hs i x σ _ (y xs q) p
 ·have e:i=xs.length:=by omega
  subst e;exact .inl ⟨⟨xs,q,Nat.le_refl _⟩,hd σ H p⟩
theorem Wd{K:Frg}{a:Addr}{xs:List V}{g:TG}{tb:TS}{D:Ends}{σ:St}{H:Hp}(Pv:Nat->St->Hp->Prop)(h0:Pv 0 σ H)(hl:∀i σ H,i<=xs.length->Pv i σ H->SqT K H a xs)
  (hs:∀i x σ H,xs[i]?=some x->Pv i σ H->g x σ H fun σ2 H2=>tb {D with nx:=Pv (i+1),ct:=Pv (i+1),bk:=D.nx} σ2 H2) (hd:∀σ H,Pv xs.length σ H->D.nx σ H) :
  ∃W:Nat->Nat->St->Hp->Prop,(∃m,W 0 m σ H)/\∀i m σ H,W i m σ H->
   ((Itt K a).stop i H/\D.nx σ H)\/((Itt K a).go i H/\∃N:St->Hp->Prop,(∀σ' H',N σ' H'->∃m',m'<m/\W (i+1) m' σ' H')/\∀x H',(Itt K a).yld i H x H'->g x σ H' fun σ2 H2=>tb {D with nx:=N,ct:=N,bk:=D.nx} σ2 H2):=by
 refine⟨fun i m σ H=>m=xs.length-i/\i<=xs.length/\Pv i σ H,⟨xs.length,by simp,Nat.zero_le _,h0⟩,?_⟩;rintro i m σ H ⟨rfl,hi,p⟩;have q:=hl i σ H hi p;by_cases hlt:i<xs.length
 ·refine .inr ⟨⟨xs,xs[i],q,by simp[hlt]⟩,Pv (i+1),fun σ' H' p'=>⟨xs.length-(i+1),by omega,rfl,hlt,p'⟩,fun x H' y=>?_⟩;obtain⟨e,y⟩:=y;subst e;exact hs i x σ _ (y xs q) p
 ·have e:i=xs.length:=by omega
  subst e;exact .inl ⟨⟨xs,q,Nat.le_refl _⟩,hd σ H p⟩
theorem Jy{lo:Int}{n:Nat}{g:TG}{tb:TS}{D:Ends}{σ:St}{H:Hp}(Pv:Nat->St->Hp->Prop)(h0:Pv 0 σ H)
  (hs:∀i σ H,i<n->Pv i σ H->g (.int (lo+i)) σ H fun σ2 H2=>tb {D with nx:=Pv (i+1),ct:=Pv (i+1),bk:=D.nx} σ2 H2) (hd:∀σ H,Pv n σ H->D.nx σ H) :
  ∃W:Nat->Nat->St->Hp->Prop,(∃m,W 0 m σ H)/\∀i m σ H,W i m σ H->
   ((Itr lo n).stop i H/\D.nx σ H)\/((Itr lo n).go i H/\∃N:St->Hp->Prop,(∀σ' H',N σ' H'->∃m',m'<m/\W (i+1) m' σ' H')/\∀x H',(Itr lo n).yld i H x H'->g x σ H' fun σ2 H2=>tb {D with nx:=N,ct:=N,bk:=D.nx} σ2 H2):=by
 refine⟨fun i m σ H=>m=n-i/\i<=n/\Pv i σ H,⟨n,by simp,Nat.zero_le _,h0⟩,?_⟩;rintro i m σ H ⟨rfl,hi,p⟩;by_cases hlt:i<n
 ·refine .inr ⟨hlt,Pv (i+1),fun σ' H' p'=>⟨n-(i+1),by omega,rfl,hlt,p'⟩,fun x H' y=>?_⟩;obtain⟨e,y⟩:=y;subst e y;exact hs i σ _ hlt p
 ·have e:i=n:=by omega
  subst e;exact .inl ⟨Nat.le_refl _,hd σ H p⟩
noncomputable abbrev R2:=V->V->Hp->VK->Prop
def OpR(X:Cx)(f:Value->Value->Sem Value)(r:R2):Prop:=
 ∀(pins:List (Addr×Obj)) (s:Shared) (σ:St) (H:Hp) (x y:V) (v u:Value) (Q:VK),Inv X pins σ H s->RelV x v->RelV y u->r x y H Q->
  wpAny (model X.prog X.w) X.A (f v u) (EP X pins σ Q) X.xe s
def UnR(X:Cx)(f:Value->Sem Value)(r:V->Hp->VK->Prop):Prop:=
 ∀(pins:List (Addr×Obj)) (s:Shared) (σ:St) (H:Hp) (x:V) (v:Value) (Q:VK),Inv X pins σ H s->RelV x v->r x H Q->
  wpAny (model X.prog X.w) X.A (f v) (EP X pins σ Q) X.xe s
def CallR(X:Cx)(f:Value)(r:List V->Hp->VK->Prop):Prop:=
 ∀(pins:List (Addr×Obj)) (s:Shared) (σ:St) (H:Hp) (xs:List V) (us:List Value) (Q:VK),Inv X pins σ H s->Vals xs us->r xs H Q->
  wpAny (model X.prog X.w) X.A (call f us) (EP X pins σ Q) X.xe s
def tOp(r:R2)(ta tb:TE):TE:=fun σ H Q=>ta σ H fun x H1=>tb σ H1 fun y H2=>r x y H2 Q
def tUn(r:V->Hp->VK->Prop)(ta:TE):TE:=fun σ H Q=>ta σ H fun x H1=>r x H1 Q
def rI(C:Int->Int->Prop)(g:Int->Int->V):R2:=fun x y H Q=>∃i j,x = .int i/\y = .int j/\C i j/\Q (g i j) H
def rI0(g:Int->Int->V):R2:=fun x y H Q=>∃i j,x = .int i/\y = .int j/\Q (g i j) H
noncomputable def rU(g:Int->V):V->Hp->VK->Prop:=fun x H Q=>∃i,x = .int i/\Q (g i) H
section
variable{X:Cx}{a b c:Expr}{ta tb tc:TE}{pos:Pos}
theorem binT(ha:PE X a ta)(hb:PE X b tb){pins:List (Addr×Obj)}{s:Shared}{σ:St}{H:Hp}{R:V->V->Hp->Prop}(I:Inv X pins σ H s)
  (h:ta σ H fun x H1=>tb σ H1 fun y H2=>R x y H2) {Q:Value->Shared->Prop} {f:Value->Value->Sem Value}
  (hf:∀v u s2 x y H2,Inv X pins σ H2 s2->RelV x v->RelV y u->R x y H2->wpAny (model X.prog X.w) X.A (f v u) Q X.xe s2) :
  wpAny (model X.prog X.w) X.A (eval a X.env) (fun v s₁=>wpAny (model X.prog X.w) X.A (eval b X.env) (fun u s₂=>wpAny (model X.prog X.w) X.A (f v u) Q X.xe s₂) X.xe s₁) X.xe s:=by
 refine thn (ha pins s σ H _ I h) fun v s1 ⟨x,H1,I1,r1,q1⟩=>?_
 refine thn (hb pins s1 σ H1 _ I1 q1) fun u s2 ⟨y,H2,I2,r2,q2⟩=>?_
 exact hf v u s2 x y H2 I2 r1 r2 q2
theorem jh{op:Operator}{r:R2}(ho:OpR X (binaryOp op) r)(ha:PE X a ta)(hb:PE X b tb):PE X (.BinOp a op b pos) (tOp r ta tb):=by
 intro pins s σ H Q I h;exact wpAny_BinOp (binT ha hb I h fun v u s2 x y H2 I2 rx ry q=>ho pins s2 σ H2 x y v u Q I2 rx ry q)
theorem kS{op:UnaryOp}{r:V->Hp->VK->Prop}(ho:UnR X (unaryOp op) r)(ha:PE X a ta):PE X (.UnaryOp op a pos) (tUn r ta):=by
 intro pins s σ H Q I h;exact UnaryOp_ (thn (ha pins s σ H _ I h) fun v s1 ⟨x,H1,I1,r1,q1⟩=>ho pins s1 σ H1 x v Q I1 r1 q1)
theorem opI{f:Value->Value->Sem Value}{C:Int->Int->Prop}{g:Int->Int->Int}
  (rule:∀(i j:Int) (t u:Tok) (s:Shared) (Q:Value->Shared->Prop) (E:Value->Shared->Prop),C i j->Q (.int (g i j) s.toks) {s with toks:=s.toks+1}->wpAny (model X.prog X.w) X.A (f (.int i t) (.int j u)) Q E s) :
  OpR X f (rI C fun i j=>.int (g i j)):=by
 intro pins s σ H x y v u Q I rx ry h;obtain⟨i,j,rfl,rfl,hc,q⟩:=h;obtain⟨t,rfl⟩:=rx;obtain⟨t',rfl⟩:=ry;exact rule i j t t' s _ _ hc ⟨.int (g i j),H,I.tok _,⟨_,rfl⟩,q⟩
theorem opI0{f:Value->Value->Sem Value}{g:Int->Int->Int}
  (rule:∀(i j:Int) (t u:Tok) (s:Shared) (Q:Value->Shared->Prop) (E:Value->Shared->Prop),Q (.int (g i j) s.toks) {s with toks:=s.toks+1}->wpAny (model X.prog X.w) X.A (f (.int i t) (.int j u)) Q E s) :
  OpR X f (rI0 fun i j=>.int (g i j)):=by
 intro pins s σ H x y v u Q I rx ry h;obtain⟨i,j,rfl,rfl,q⟩:=h;obtain⟨t,rfl⟩:=rx;obtain⟨t',rfl⟩:=ry;exact rule i j t t' s _ _ ⟨.int (g i j),H,I.tok _,⟨_,rfl⟩,q⟩
theorem opB0{f:Value->Value->Sem Value}{g:Int->Int->Bool}
  (rule:∀(i j:Int) (t u:Tok) (s:Shared) (Q:Value->Shared->Prop) (E:Value->Shared->Prop),Q (.bool (g i j)) s->wpAny (model X.prog X.w) X.A (f (.int i t) (.int j u)) Q E s) :
  OpR X f (rI0 fun i j=>.bl (g i j)):=by
 intro pins s σ H x y v u Q I rx ry h;obtain⟨i,j,rfl,rfl,q⟩:=h;obtain⟨t,rfl⟩:=rx;obtain⟨t',rfl⟩:=ry;exact rule i j t t' s _ _ ⟨.bl (g i j),H,I,rfl,q⟩
def CPow(i j:Int):Prop:=0<=j/\j<=1000000/\i.natAbs<2^64
theorem jJ:OpR X (binaryOp .Add) (rI0 fun i j=>.int (i+j)):=opI0 fun _ _ _ _ _ _ _ q=>add_int q
theorem Qm:OpR X (binaryOp .Sub) (rI0 fun i j=>.int (i-j)):=opI0 fun _ _ _ _ _ _ _ q=>sub_int q
theorem jy:OpR X (binaryOp .Mod) (rI (fun _ j=>0<j) fun i j=>.int (i%j)):=opI fun i j _ _ _ _ _ hc q=>by
 have h1:(0:Int)<j:=hc;exact mod_int' (by omega) (by rw[Int.fmod_eq_emod_of_nonneg i (by omega)];exact q)
theorem qM:OpR X (binaryOp .Pow) (rI CPow fun i j=>.int (i^j.toNat)):=opI fun _ _ _ _ _ _ _ hc q=>pow_int_small hc.1 hc.2.1 hc.2.2 q
theorem unI{f:Value->Sem Value}{g:Int->Int}
  (rule:∀(i:Int) (t:Tok) (s:Shared) (Q:Value->Shared->Prop) (E:Value->Shared->Prop),Q (.int (g i) s.toks) {s with toks:=s.toks+1}->wpAny (model X.prog X.w) X.A (f (.int i t)) Q E s) :
  UnR X f (rU fun i=>.int (g i)):=by
 intro pins s σ H x v Q I rx h;obtain⟨i,rfl,q⟩:=h;obtain⟨t,rfl⟩:=rx;exact rule i t s _ _ ⟨.int (g i),H,I.tok _,⟨_,rfl⟩,q⟩
theorem y9:UnR X (unaryOp .USub) (rU fun i=>.int (-i)):=unI fun _ _ _ _ _ q=>neg_int q
end
noncomputable def scal:V->V->Bool
 | .non,.non=>true | .non,.int _=>true | .int _,.non=>true | .non,.bl _=>true | .bl _,.non=>true | .non,.str _=>true | .str _,.non=>true
 | .int _,.int _=>true | .bl _,.bl _=>true | .str _,.str _=>true | .byt _,.byt _=>true
 | .int _,.str _=>true | .str _,.int _=>true | .bl _,.str _=>true | .str _,.bl _=>true
 | _,_=>false
def rEq:R2:=fun x y H Q=>scal x y=true/\Q (.bl (decide (x=y))) H
theorem wZ{i j:Int}:decide (V.int i=V.int j)=(i==j):=by
 rw[Bool.eq_iff_iff];simp
theorem W7{i j:Bool}:decide (V.bl i=V.bl j)=(i==j):=by
 rw[Bool.eq_iff_iff];simp
theorem w4{i j:Str}:decide (V.str i=V.str j)=(i==j):=by
 rw[Bool.eq_iff_iff];simp
theorem wY{i j:Array UInt8}:decide (V.byt i=V.byt j)=(i.toList==j.toList):=by
 rw[Bool.eq_iff_iff];cases i;cases j;simp
section
variable{X:Cx}{a b c:Expr}{ta tb tc:TE}{pos:Pos}
theorem qe{pins:List (Addr×Obj)}{σ:St}{H:Hp}{s:Shared}{Q:VK}{k k':Bool}(I:Inv X pins σ H s)(q:Q (.bl k) H)(e:k=k'):EP X pins σ Q (.bool k') s:=by
 subst e;exact⟨.bl k,H,I,rfl,q⟩
theorem JR:OpR X (compareOp .Eq) rEq:=by
 intro pins s σ H x y v u Q I rx ry h;obtain⟨hs,q⟩:=h;cases x with
 | non=>
  cases rx;cases y with
  | non=>cases ry;exact PySem.EqNone.eq_none_none (qe I q (by simp))
  | bl j=>cases ry;exact PySem.EqNone.eq_none_bool (qe I q (by simp))
  | int j=>obtain⟨t',rfl⟩:=ry;exact PySem.EqNone.eq_none_int (qe I q (by simp))
  | str j=>obtain⟨t',rfl⟩:=ry;exact PySem.EqNone.eq_none_str (qe I q (by simp))
  | _=>exact absurd (show false=true from hs) Bool.false_ne_true
 | bl i=>
  cases rx;cases y with
  | non=>cases ry;exact PySem.EqNone.eq_bool_none (qe I q (by simp))
  | bl j=>cases ry;exact eq_bool (qe I q W7)
  | str j=>obtain⟨t',rfl⟩:=ry;exact PySem.EqMixed.eq_bool_str (qe I q (by simp))
  | _=>exact absurd (show false=true from hs) Bool.false_ne_true
 | int i=>
  obtain⟨t,rfl⟩:=rx;cases y with
  | non=>cases ry;exact PySem.EqNone.eq_int_none (qe I q (by simp))
  | int j=>obtain⟨t',rfl⟩:=ry;exact eq_int (qe I q wZ)
  | str j=>obtain⟨t',rfl⟩:=ry;exact PySem.EqMixed.eq_int_str (qe I q (by simp))
  | _=>exact absurd (show false=true from hs) Bool.false_ne_true
 | str i=>
  obtain⟨t,rfl⟩:=rx;cases y with
  | non=>cases ry;exact PySem.EqNone.eq_str_none (qe I q (by simp))
  | bl j=>cases ry;exact PySem.EqMixed.eq_str_bool (qe I q (by simp))
  | int j=>obtain⟨t',rfl⟩:=ry;exact PySem.EqMixed.eq_str_int (qe I q (by simp))
  | str j=>obtain⟨t',rfl⟩:=ry;exact eq_str (qe I q w4)
  | _=>exact absurd (show false=true from hs) Bool.false_ne_true
 | byt i=>
  obtain⟨t,rfl⟩:=rx;cases y with
  | byt j=>obtain⟨t',rfl⟩:=ry;exact PySem.W.eq_bytes (qe I q wY)
  | _=>exact absurd (show false=true from hs) Bool.false_ne_true
 | _=>cases y<;>exact absurd (show false=true from hs) Bool.false_ne_true
theorem kQ:OpR X (compareOp .Lt) (rI0 fun i j=>.bl (decide (i<j))):=opB0 fun _ _ _ _ _ _ _ q=>lt_int q
theorem xP:OpR X (compareOp .LtE) (rI0 fun i j=>.bl (decide (i<=j))):=opB0 fun _ _ _ _ _ _ _ q=>le_int q
theorem ZN:OpR X (compareOp .Gt) (rI0 fun i j=>.bl (decide (j<i))):=opB0 fun _ _ _ _ _ _ _ q=>gt_int q
theorem xO:OpR X (compareOp .GtE) (rI0 fun i j=>.bl (decide (j<=i))):=opB0 fun _ _ _ _ _ _ _ q=>ge_int q
theorem nomark(b:Expr){op:CmpOp}(h:op≠.In:=by decide)(h2:op≠.NotIn:=by decide):behindInMarks op b=false:=by
 have e1:(op==CmpOp.In)=false:=by cases op<;>first | rfl | exact absurd rfl h
 have e2:(op==CmpOp.NotIn)=false:=by cases op<;>first | rfl | exact absurd rfl h2
 cases b<;>simp[behindInMarks,e1,e2]
theorem Zo{op:CmpOp}{r:R2}(ho:OpR X (compareOp op) r)(ha:PE X a ta)(hb:PE X b tb)(hm:behindInMarks op b=false):PE X (.Compare a [op] [b] pos) (tOp r ta tb):=by
 intro pins s σ H Q I h;exact wpAny_Compare1 (binT ha hb I h fun v u s2 x y H2 I2 rx ry q=>ho pins s2 σ H2 x y v u Q I2 rx ry q) hm
def tTest(t:TE):TT:=fun σ H Q=>t σ H fun x H'=>∃k,x = .bl k/\Q k H'
theorem jt{op:CmpOp}{r:R2}(ho:OpR X (compareOp op) r)(ha:PE X a ta)(hb:PE X b tb)(hm:behindInMarks op b=false):PT X (.Compare a [op] [b] pos) (tTest (tOp r ta tb)):=by
 intro pins s σ H Q I h;refine wpAny_isTrue_Compare1 (thn (ha pins s σ H _ I h) fun v s1 ⟨x,H1,I1,r1,q1⟩=>thn (hb pins s1 σ H1 _ I1 q1) fun u s2 ⟨y,H2,I2,r2,q2⟩=>
  thn (ho pins s2 σ H2 x y v u _ I2 r1 r2 q2) fun c s3 ⟨z,H3,I3,r3,k,e,q3⟩=>?_) hm
 subst e;cases r3;exact wpAny_truthy_bool ⟨H3,I3,q3⟩
theorem line63:(sizeLine:Nat)<2^63:=by rw[sizeLine_eq];decide
theorem q5:OpR X (binaryOp .Add) (fun x y H Q=>∃i j,x = .str i/\y = .str j/\i.length+j.length<=sizeLine/\Q (.str (i++j)) H):=by
 intro pins s σ H x y v u Q I rx ry h;obtain⟨i,j,rfl,rfl,hz,q⟩:=h;obtain⟨t,rfl⟩:=rx;obtain⟨t',rfl⟩:=ry;exact add_str (fun t' tk=>⟨.str (i++j),H,I.tok _,⟨_,rfl⟩,q⟩) hz
theorem vals1{x:V}{us:List Value}(r:Vals [x] us):∃u,us=[u]/\RelV x u:=by
 cases r with
 | cons r1 r2=>cases r2;exact⟨_,rfl,r1⟩
theorem vals2{x y:V}{us:List Value}(r:Vals [x,y] us):∃u w',us=[u,w']/\RelV x u/\RelV y w':=by
 cases r with
 | cons r1 r2=>
  cases r2 with
  | cons r3 r4=>cases r4;exact⟨_,_,rfl,r1,r3⟩
theorem Kj(hc:X.calm=true):CallR X (.builtin "max") (fun xs H Q=>∃i j,xs=[.int i,.int j]/\Q (.int (if j>i then j else i)) H):=by
 intro pins s σ H xs us Q I r h;obtain⟨i,j,rfl,q⟩:=h;obtain⟨u,w',rfl,⟨t,rfl⟩,⟨t',rfl⟩⟩:=vals2 r;refine max_two_ints (I.ok.hd hc) fun h' tk k=>⟨_,H,I.kept k,?_,q⟩
 by_cases hj:j>i
 ·rw[if_pos hj,if_pos hj];exact⟨_,rfl⟩
 ·rw[if_neg hj,if_neg hj];exact⟨_,rfl⟩
theorem yg(hc:X.calm=true):CallR X (.builtin "min") (fun xs H Q=>∃i j,xs=[.int i,.int j]/\Q (.int (if j<i then j else i)) H):=by
 intro pins s σ H xs us Q I r h;obtain⟨i,j,rfl,q⟩:=h;obtain⟨u,w',rfl,⟨t,rfl⟩,⟨t',rfl⟩⟩:=vals2 r;refine min_two_ints (I.ok.hd hc) fun h' tk k=>⟨_,H,I.kept k,?_,q⟩
 by_cases hj:j<i
 ·rw[if_pos hj,if_pos hj];exact⟨_,rfl⟩
 ·rw[if_neg hj,if_neg hj];exact⟨_,rfl⟩
theorem ye:CallR X (.type "int") (fun xs H Q=>(∃i,xs=[.int i]/\Q (.int i) H)\/∃k,xs=[.bl k]/\Q (.int (if k then 1 else 0)) H):=by
 intro pins s σ H xs us Q I r h;rcases h with⟨i,rfl,q⟩ | ⟨k,rfl,q⟩
 ·obtain⟨u,rfl,t,rfl⟩:=vals1 r;exact call_int_int ⟨.int i,H,I,⟨_,rfl⟩,q⟩
 ·obtain⟨u,rfl,r1⟩:=vals1 r;cases r1;exact call_int_bool ⟨.int (if k then 1 else 0),H,I.tok _,⟨_,rfl⟩,q⟩
def LenV(K:Frg)(x:V)(H:Hp)(n:Nat):Prop:=
 match x with
 | .str y=>y.length<=sizeLine/\n=y.length
 | .byt y=>y.size<=sizeLine/\n=y.size
 | .ref p=>(∃xs,SqL K H p xs/\n=xs.length)\/∃xs,SqT K H p xs/\n=xs.length
 | _=>False
theorem jG:CallR X (.builtin "len") (fun xs H Q=>∃x n,xs=[x]/\LenV X.K x H n/\Q (.int n) H):=by
 intro pins s σ H xs us Q I r h;obtain⟨x,n,rfl,e,q⟩:=h;obtain⟨u,rfl,rx⟩:=vals1 r;have hl:=line63;have hs:sizeLine=16777216:=sizeLine_eq;cases x with
 | str y=>
  obtain⟨t,rfl⟩:=rx;obtain⟨hy,e'⟩:y.length<=sizeLine/\n=y.length:=e;subst e';exact len_str (by omega) ⟨.int _,H,I.tok _,⟨_,rfl⟩,q⟩
 | byt y=>
  obtain⟨t,rfl⟩:=rx;obtain⟨hy,e'⟩:y.size<=sizeLine/\n=y.size:=e;subst e';exact PySem.W.len_bytes (by omega) ⟨.int _,H,I.tok _,⟨_,rfl⟩,q⟩
 | ref p=>
  cases rx;have e':(∃xs,SqL X.K H p xs/\n=xs.length)\/∃xs,SqT X.K H p xs/\n=xs.length:=e;rcases e' with⟨xs,hx,e'⟩ | ⟨xs,hx,e'⟩
  ·subst e';obtain⟨its,r',pl,hz⟩:=I.list hx;have hlen:=r'.length;exact Calls.call_len_list pl.isList (by simp only[size_toArray];omega) ⟨.int xs.length,H,I.tok _,⟨_,by simp only[size_toArray];rw[hlen]⟩,q⟩
  ·subst e';obtain⟨its,r',pl,hz⟩:=I.tuple hx;have hlen:=r'.length;exact len_tuple pl (by simp only[size_toArray];omega) ⟨.int xs.length,H,I.tok _,⟨_,by simp only[size_toArray];rw[hlen]⟩,q⟩
 | _=>exact(show False from e).elim
end
structure ObjM(h:Heap)(x dx C:Addr)(mA:Str->Option Value):Prop where
 obj:h.get? x=some (PySem.W.instObj C dx)
 ns:h.Ns1 dx mA
 ne:dx≠x
theorem Kt{h:Heap}{dx:Addr}{mA:Str->Option Value}(n:h.Ns1 dx mA):∃od,h.get? dx=some od/\∀name,PySem.W.lookIn name od=some (mA name):=by
 obtain⟨o,es,ep,ho,hd,hk,_,hm⟩:=n;refine⟨o,ho,fun name=>?_⟩;have e:=hm name;unfold nsFind findBy at e;rw[<-Array.find?_toList]at e;unfold PySem.W.lookIn;rw[hd];dsimp only;split
 ·rename_i y q;rw[q]at e;exact congrArg some e
 ·rename_i q;rw[q]at e;have a:es.toList.any (·.refKey)=false:=by
   rw[List.any_eq_false];intro y hy;obtain⟨z,t,hkey⟩:=hk y (Array.mem_toList_iff.mp hy);simp[DictEntry.refKey,hkey]
  have a':¬es.toList.any (·.refKey)=true:=by rw[a];exact Bool.false_ne_true
  rw[if_neg a'];exact congrArg some e
theorem ObjM.look{h:Heap}{x dx C:Addr}{mA:Str->Option Value}(I:ObjM h x dx C mA):∃od,PySem.W.InstAt h x (PySem.W.instObj C dx) C (some od)/\∀name,PySem.W.lookIn name od=some (mA name):=
 let ⟨od,ho,hl⟩:=Kt I.ns
 ⟨od,⟨I.obj,rfl,rfl,ho⟩,hl⟩
section
variable{prog:Program}{w:World}{A:Around}{E:Value->Shared->Prop}{s:Shared}{K:Frg}{x dx C f:Addr}{mA:Str->Option Value}{name:Str}{v:Value}
end
theorem RelO.some_of{v:V}{o:Option Value}(r:RelO (some v) o):∃u,o=some u/\RelV v u:=by
 cases o with
 | none=>exact(show False from r).elim
 | some u=>exact⟨u,rfl,r⟩
section
variable{P:Program}{w:World}{H H':Hp}{h h':Heap}{a C dx:Addr}{fs fs':List (Str×V)}
theorem Wh(hok:HOk P w H h)(e:H a=some (.ins C dx fs)):∃mA,ObjM h a dx C mA/\(∀f,RelO (fs.lookup f) (mA f))/\PySem.Within mA (fs.map (·.1))/\fs.length<=1000/\H dx=some (.own a):=by
 obtain⟨d,z,ne,ob,mA,n,r,q⟩:=(show ObjOk P w H h a (.ins C dx fs)from hok a _ e)
 exact⟨mA,⟨ob,n,ne⟩,r,q,z,d⟩
end
structure Cls(K:Frg)(C:Addr):Prop where
 pg:PySem.W.plainGet K C Str.empty=true
 hd:PySem.W.hasDictIn K C=true
 po:PySem.W.plainOver K C=true
 sa:PySem.W.findIn K (.ref C) "__setattr__"= some (some (.builtin "object.__setattr__"))
theorem Cls.get{K:Frg}{C:Addr}(c:Cls K C)(f:Str):PySem.W.plainGet K C f=true:=c.pg
section
variable{X:Cx}{pins:List (Addr×Obj)}{σ:St}{H:Hp}{s:Shared}{a C dx:Addr}{fs:List (Str×V)}{f:Str}{v:V}{A:Around}{E:Value->Shared->Prop}
end
section
variable{X:Cx}{o e value:Expr}{f:Str}{pos pos' tpos:Pos}{ta tv:TE}
end
section
variable{X:Cx}{pins:List (Addr×Obj)}{σ:St}{H:Hp}{s:Shared}{A:Around}{E:Value->Shared->Prop}{Q:Value->Shared->Prop}{c:Value}{b:Bool}
inductive TyOf(K:Frg)(H:Hp):V->Value->Prop where
 | non:TyOf K H .non (.type "NoneType")
 | bl (x:Bool):TyOf K H (.bl x) (.type "bool")
 | int (i:Int):TyOf K H (.int i) (.type "int")
 | str (x:Str):TyOf K H (.str x) (.type "str")
 | flt (x:UInt64):TyOf K H (.flt x) (.type "float")
 | lst {a:Addr} {xs:List V} (e:H a=some (.lst xs)):TyOf K H (.ref a) (.type "list")
 | frz {a:Addr} {o:Obj} {xs:List V} (e:H a=some (.frz o (.lst xs))):TyOf K H (.ref a) (.type "list")
 | tup {a:Addr} {xs:List V} (e:H a=some (.tup xs)):TyOf K H (.ref a) (.type "tuple")
 | dK {a:Addr} {kvs:List (Key×V)} (e:H a=some (.dK kvs)):TyOf K H (.ref a) (.type "dict")
 | dT {a:Addr} {kvs:List (List Key×V)} (e:H a=some (.dT kvs)):TyOf K H (.ref a) (.type "dict")
 | ins {a C dx:Addr} {fs:List (Str×V)} (e:H a=some (.ins C dx fs)) (cl:Cls K C) (ha:PySem.W.findIn K (.ref C) "__class__"= some (some (.builtin "object.__class__")))
   (hn:PySem.W.specialIn K (.builtin "object.__class__") "__get__"= some (some (.builtin "getset_descriptor.__get__"))) (htk:PySem.W.takesIn K (.builtin "object.__class__")=some true)
   (hm:PySem.W.mroIn K C (.type "object")=some true):TyOf K H (.ref a) (.ref C)
theorem Kq{x:V}{u t:Value}(I:Inv X pins σ H s)(rx:RelV x u)(ty:TyOf X.K H x t)(e:PySem.W.kitOne X.K t c=some b)(h:∀tk,Q (.bool b) {s with toks:=tk}) :
  wpAny (model X.prog X.w) A (call (.builtin "isinstance") [u,c]) Q E s:=by
 cases ty with
 | non=>cases(show u=Value.none from rx);exact PySem.W.kia_one PySem.W.kitx_none I.kIn True.intro e (fun z=>nomatch z) h
 | bl y=>cases(show u=Value.bool y from rx);exact PySem.W.kia_one PySem.W.kitx_bool I.kIn True.intro e (fun z=>nomatch z) h
 | int i=>obtain⟨t,q⟩:=(show∃t,u=Value.int i t from rx);cases q;exact PySem.W.kia_one PySem.W.kitx_int I.kIn True.intro e (fun z=>nomatch z) h
 | str y=>obtain⟨t,q⟩:=(show∃t,u=Value.str y t from rx);cases q;exact PySem.W.kia_one PySem.W.kitx_str I.kIn True.intro e (fun z=>nomatch z) h
 | flt y=>obtain⟨t,q⟩:=(show∃t,u=Value.float y t from rx);cases q;exact PySem.W.kia_one PySem.W.kitx_float I.kIn True.intro e (fun z=>nomatch z) h
 | @lst a xs ea=>
  cases(show u=Value.ref a from rx);obtain⟨_,_,n,_,h1⟩:=(show ObjOk X.prog X.w H s.heap a (.lst xs)from I.hok a _ ea)
  exact PySem.W.kia_one PySem.W.kitx_list I.kIn ⟨_,h1,rfl⟩ e (fun z=>nomatch z) h
 | @frz a ob xs ea=>
  cases(show u=Value.ref a from rx);obtain⟨_,_,_,n,_,h1⟩:=(show ObjOk X.prog X.w H s.heap a (.frz ob (.lst xs))from I.hok a _ ea)
  exact PySem.W.kia_one PySem.W.kitx_list I.kIn ⟨_,h1,rfl⟩ e (fun z=>nomatch z) h
 | @tup a xs ea=>
  cases(show u=Value.ref a from rx);obtain⟨_,_,_,p⟩:=(show ObjOk X.prog X.w H s.heap a (.tup xs)from I.hok a _ ea)
  obtain⟨o,h1,h2,_⟩:=p;exact PySem.W.kia_one PySem.W.kitx_tuple I.kIn ⟨o,h1,h2⟩ e (fun z=>nomatch z) h
 | @dK a kvs ea=>
  cases(show u=Value.ref a from rx);obtain⟨_,_,vs,_,p⟩:=(show ObjOk X.prog X.w H s.heap a (.dK kvs)from I.hok a _ ea)
  obtain⟨o,es,ep,h1,h2,_⟩:=p;exact PySem.W.kia_one PySem.W.kitx_dict I.kIn ⟨o,h1,h2.1⟩ e (fun z=>nomatch z) h
 | @dT a kvs ea=>
  cases(show u=Value.ref a from rx);obtain⟨_,_,xs,_,o,es,ep,h1,h2,_⟩:=(show ObjOk X.prog X.w H s.heap a (.dT kvs)from I.hok a _ ea)
  exact PySem.W.kia_one PySem.W.kitx_dict I.kIn ⟨o,h1,h2.1⟩ e (fun z=>nomatch z) h
 | @ins a C dx fs ea cl ha hn htk hm=>
  cases(show u=Value.ref a from rx);obtain⟨mA,O,_⟩:=Wh I.hok ea;obtain⟨od,J,_⟩:=O.look;exact PySem.W.kia_one (PySem.W.kitx_own (cl.get _) cl.hd ha hn htk hm) I.kIn J e (fun z=>nomatch z) h
end
structure Room(k:Nat)(A:Around):Prop where
 hd:A.handled=none
 dp:A.depth+3*k+5<recursionLimit
 un:A.units+16*k+200<cLine
theorem Room.mono{j k:Nat}{A:Around}(r:Room k A)(h:j<=k):Room j A:=⟨r.hd,by have:=r.dp;omega,by have:=r.un;omega⟩
theorem Room.deeper{k:Nat}{A:Around}(r:Room (k+1) A)(env:Env):Room k (A.deeper env):=
 ⟨r.hd,by have:=r.dp;show A.depth+1+3*k+5<_;omega,by have:=r.un;show A.units+3+16*k+200<_;omega⟩
theorem Room.depth{k:Nat}{A:Around}(r:Room k A):A.depth<recursionLimit:=by have:=r.dp;omega
theorem Room.units{k:Nat}{A:Around}(r:Room k A):A.units+64<cLine:=by have:=r.un;omega
def tNil:TA:=fun _ H Q=>Q [] H
def tCons(ta:TE)(tr:TA):TA:=fun σ H Q=>ta σ H fun x H1=>tr σ H1 fun xs H2=>Q (x::xs) H2
section
variable{X:Cx}{e:Expr}{es:List Expr}{te:TE}{t:TA}{pos:Pos}
theorem jc:PA X [] tNil:=fun _ _ _ _ H Q I h=>Calls.spliced_nil ⟨[],H,I,.nil,h⟩
theorem ja(ha:PE X e te)(hr:PA X es t)(hs:starEach (e::es) X.env=(false,eval e X.env)::starEach es X.env:=by rfl):PA X (e::es) (tCons te t):=by
 intro pos pins s σ H Q I h;rw[hs];show wpAny _ _ (spliced ((false,eval e X.env)::backTo pos (starEach es X.env))) _ _ s;refine Calls.spliced_cons (thn (ha pins s σ H _ I h) fun u s1 ⟨x,H1,I1,r1,q1⟩=>?_);exact thn (hr pos pins s1 σ H1 _ I1 q1) fun us s2 ⟨xs,H2,I2,r2,q2⟩=>⟨x::xs,H2,I2,.cons r1 r2,q2⟩
def tTup(t:TA):TE:=fun σ H Q=>t σ H fun xs H1=>xs.length<=sizeLine/\∀p,H1 p=none->Q (.ref p) (upd H1 p (.tup xs))
def tLst(t:TA):TE:=fun σ H Q=>t σ H fun xs H1=>xs.length<=sizeLine/\∀p,H1 p=none->Q (.ref p) (upd H1 p (.lst xs))
theorem j8{x1}(h:PA X es t):PE X (.Tuple es x1 pos) (tTup t):=by
 intro pins s σ H Q I hq;refine wpAny_Tuple_spliced (thn (h pos pins s σ H _ I hq) fun us s1 ⟨xs,H1,I1,r,z,q⟩=>⟨by rw[<-r.length];exact z,?_⟩);have hf:H1 s1.heap.objs.size=none:=I1.hok.fresh (Nat.le_refl _);refine⟨.ref s1.heap.objs.size,upd H1 s1.heap.objs.size (.tup xs),I1.laid (t':=s1.toks) (fun b u e=>Heap.get?_push_of_some _ e) (Nat.le_refl _) ?_,rfl,q _ hf⟩;exact⟨z,us,r,⟨_,Heap.get?_push_size _ rfl,rfl,_,rfl⟩⟩
theorem Ja(h:PA X es t):PE X (.List es pos) (tLst t):=by
 intro pins s σ H Q I hq;refine wpAny_List_spliced (thn (h pos pins s σ H _ I hq) fun us s1 ⟨xs,H1,I1,r,z,q⟩=>⟨by rw[<-r.length];exact z,?_⟩);have hf:H1 s1.heap.objs.size=none:=I1.hok.fresh (Nat.le_refl _);refine⟨.ref s1.heap.objs.size,upd H1 s1.heap.objs.size (.lst xs),I1.laid (t':=s1.toks) (fun b u e=>Heap.get?_push_of_some _ e) (Nat.le_refl _) ?_,rfl,q _ hf⟩;exact⟨z,us,0,r,Heap.get?_push_size _ rfl⟩
end
noncomputable abbrev Sp:=List V->Hp->VK->XK->Prop
noncomputable abbrev CXT:=List Env->Hp->Shared->XK->Value->Shared->Prop
structure Env0(P:Program)(w:World)(K:Frg)(mg:Str->Option Value)(base:Heap)(A:Around)(outer:List Env)(s:Shared)(H:Hp):Prop where
 frames:A.frames=some outer
 mod:Mod K mg base
 bs:∀b o,base.get? b=some o->s.heap.get? b=some o/\H b=none
 bsz:base.objs.size<=s.heap.objs.size
 funs:s.heap.FunFrames base outer
 frf:∀b∈frs outer,H b=none
 hok:HOk P w H s.heap
 bare:AllBare s.gens
def CE(outer:List Env)(P:Program)(w:World)(H:Hp)(s:Shared)(Q:VK)(u:Value)(s':Shared):Prop:=
 ∃v H',s'.os=s.os/\AllBare s'.gens/\Un (frs outer) [] H H' s.heap s'.heap/\HOk P w H' s'.heap/\RelV v u/\Q v H'
def CR(CX:CXT)(outer:List Env)(P:Program)(w:World)(H:Hp)(s:Shared)(Q:VK)(E:XK)(r:Result)(s':Shared):Prop:=
 match r with
 | .ok (.ret u)=>CE outer P w H s Q u s'
 | .ok _=>False
 | .error e=>CX outer H s E e s'
structure FnOk(P:Program)(w:World)(K:Frg)(mg:Str->Option Value)(base:Heap)(CX:CXT)(k:Nat)(f:Addr)(fd:FuncData)(ps:List Str)(sp:Sp):Prop where
 len:∀vs H Q E,sp vs H Q E->vs.length=ps.length
 run:∀(A:Around) (outer:List Env) (s:Shared) (H:Hp) (args:Args) (us:List Value) (vs:List V) (Q:VK) (E:XK),Room k A->Env0 P w K mg base A outer s H->BindsTo s fd args (ps.zip us)->Vals vs us->sp vs H Q E->
  codeAny (model P w) A (.call (.ref f) args) (CR CX outer P w H s Q E) s
theorem FnOk.mono{P:Program}{w:World}{K:Frg}{mg:Str->Option Value}{base:Heap}{CX:CXT}{j k:Nat}{f:Addr}{fd:FuncData}{ps:List Str}{sp:Sp}(F:FnOk P w K mg base CX j f fd ps sp)(h:j<=k) :
  FnOk P w K mg base CX k f fd ps sp:=⟨F.len,fun A outer s H args us vs Q E hr=>F.run A outer s H args us vs Q E (hr.mono h)⟩
section
variable{X:Cx}{pins:List (Addr×Obj)}{σ:St}{H:Hp}{s s':Shared}
theorem Inv.env0(I:Inv X pins σ H s):Env0 X.prog X.w X.K X.mg X.base X.A X.stack s H:=
 ⟨I.ok.frames,I.ok.mod,I.bs,Nat.le_trans I.ok.bsz I.sz,I.stack,I.stkFree,I.hok,I.bare⟩
theorem Inv.after{Q:VK}{u:Value}(I:Inv X pins σ H s)(h:CE X.stack X.prog X.w H s Q u s'):EP X pins σ Q u s':=by
 obtain⟨v,H',os,bare,un,hok,r,q⟩:=h;obtain⟨hh,g,d,t,os'⟩:=s';obtain rfl:os'=s.os:=os;exact⟨v,H',I.call (h':=hh) (g':=g) (d':=d) (t':=t) (ch:=[]) un hok bare (fun b z=>absurd z (by simp)),r,q⟩
end
def tCall(sp:Sp)(dvs:List V)(E:XK)(t:TA):TE:=fun σ H Q=>t σ H fun vs H1=>sp (vs++dvs) H1 Q E
def Binds(K:Frg)(fd:FuncData)(ps:List Str)(ds:List Value):Prop:=
 ∀(s:Shared) (us:List Value),K.In s.heap->(us++ds).length=ps.length->BindsTo s fd ⟨us,[]⟩ (ps.zip (us++ds))
theorem Binds.all{K:Frg}{fd:FuncData}{ps:List Str}(h:∀us:List Value,us.length=ps.length->bindArgs fd ⟨us,[]⟩=pure (ps.zip us)):Binds K fd ps []:=fun s us _ hl=>by
 rw[append_nil]at hl|-;exact .of_eq (h us hl)
def Passes(CX:CXT)(X:Cx)(E:XK):Prop:=∀(pins:List (Addr×Obj)) (σ:St) (H:Hp) (s:Shared) (e:Value) (s':Shared),Inv X pins σ H s->CX X.stack H s E e s'->X.xe e s'
section
variable{X:Cx}{CX:CXT}{k:Nat}{f C:Addr}{fd:FuncData}{ps:List Str}{sp:Sp}{dvs:List V}{ds:List Value}{E:XK}{x m:Str}{p pos apos:Pos}{e o:Expr}{es:List Expr}{ta:TE}{t:TA}
theorem xB{pins:List (Addr×Obj)}{σ:St}{H:Hp}{s:Shared}{Q:VK}{us:List Value}{vs:List V}(F:FnOk X.prog X.w X.K X.mg X.base CX k f fd ps sp)(hr:Room k X.A)(hb:Binds X.K fd ps ds)(hd:Vals dvs ds)(hx:Passes CX X E)
  (I:Inv X pins σ H s) (r:Vals vs us) (h:sp (vs++dvs) H Q E):wpAny (model X.prog X.w) X.A (call (.ref f) us) (EP X pins σ Q) X.xe s:=by
 have r2:Vals (vs++dvs) (us++ds):=r.append hd;have hl:(us++ds).length=ps.length:=by rw[<-r2.length];exact F.len _ _ _ _ h
 refine wpAny_call (codeAny_mono (F.run X.A X.stack s H ⟨us,[]⟩ (us++ds) (vs++dvs) Q E hr I.env0 (hb s us I.kIn hl) r2 h) fun r s' hq=>?_);cases r with
 | error e=>exact hx pins σ H s e s' I hq
 | ok fl=>
  cases fl with
  | ret u=>exact I.after hq
  | next=>exact False.elim hq
  | brk=>exact False.elim hq
  | cont=>exact False.elim hq
theorem jo(F:FnOk X.prog X.w X.K X.mg X.base CX k f fd ps sp)(hr:Room k X.A)(hg:Gl X x)(hm:X.mg x=some (.ref f))(hk:PySem.W.keepIn X.K (.ref f)=true)(hb:Binds X.K fd ps ds)(hd:Vals dvs ds)(hx:Passes CX X E)
  (ha:PA X (e::es) t) (hdb:(x==("__debug__" : Str))=false:=by decide) (he:starEach (e::es) X.env=(false,eval e X.env)::starEach es X.env:=by rfl) (hpl:(backTo pos (starEach es X.env)).any (·.1)=false:=by rfl) :
  PE X (.Call (.Name x p) (e::es) [] pos) (tCall sp dvs E t):=by
 intro pins s σ H Q I h;refine wpAny_Call_Name_kw (kK I hg hm ?_ hdb);refine PySem.W.callWith_K (h₀:=X.base) I.ok.mod.kin hk (thn (ha pos pins s σ H _ I h) fun us s1 ⟨vs,H1,I1,r,q⟩=>⟨I1.kIn,?_⟩) he hpl;exact xB F hr hb hd hx I1 r q
end
section
variable{X:Cx}{CX:CXT}{k:Nat}{f C:Addr}{fd:FuncData}{ps ks:List Str}{sp:Sp}{E:XK}{x m:Str}{p pos apos kpos:Pos}{e o:Expr}{es:List Expr}{kws:List Keyword}{te ta:TE}{t tk:TA}{nm:Option Str}
variable{g:List Value->List Value->List Value}{gV:List V->List V->List V}
end
structure FnScope(N P:List Str)(sc:Scope):Prop where
 kind:sc.kind = .function
 co:sc.isCoroutine=false
 gen:sc.isGenerator=false
 nd:N.Nodup
 pre:N.take P.length=P
 par:∀x∈P,sc.names.lookup x=some .local\/sc.names.lookup x=some .cell
 nofree:∀y∈sc.names,y.2≠.free
theorem yd{kindOf:Str->Option NameKind}{x:Str}:∀{binds:List (Str×Value)} {m:Str->Option Value},(∀v,(x,v)∉binds)->bindL kindOf binds m x=m x
 | [],_,_=>rfl
 | (n,v)::r,m,h=>by
  unfold bindL;rw[yd fun w hw=>h w (mem_cons_of_mem _ hw)];split
  ·have:x≠n:=by rintro rfl;exact h v mem_cons_self
   simp[this]
  ·rfl
theorem yb{kindOf:Str->Option NameKind}{x:Str}:∀{binds:List (Str×Value)} {m:Str->Option Value},(∀v,(x,v)∉binds)->bindC kindOf binds m x=m x
 | [],_,_=>rfl
 | (n,v)::r,m,h=>by
  unfold bindC;rw[yb fun w hw=>h w (mem_cons_of_mem _ hw)];split
  ·rfl
  ·have:x≠n:=by rintro rfl;exact h v mem_cons_self
   simp[this]
theorem yc{kindOf:Str->Option NameKind}{x:Str}{v:Value}:∀{P:List Str} {vs:List Value} {i:Nat} {m:Str->Option Value},P.Nodup->P[i]?=some x->vs[i]?=some v->kindOf x=some .local->
  bindL kindOf (P.zip vs) m x=some v
 | [],_,_,_,_,h,_,_=>by simp at h
 | _::_,[],_,_,_,_,h,_=>by simp at h
 | p::P,w::vs,0,m,nd,h1,h2,hk=>by
  simp at h1 h2;subst h1;subst h2;show bindL kindOf ((p,w)::P.zip vs) m p=_;unfold bindL;rw[yd fun v hv=>(nodup_cons.mp nd).1 (of_mem_zip hv).1,if_pos hk];simp
 | p::P,w::vs,i+1,m,nd,h1,h2,hk=>by
  show bindL kindOf ((p,w)::P.zip vs) m x=_;unfold bindL;exact yc (i:=i) (nodup_cons.mp nd).2 (by simpa using h1) (by simpa using h2) hk
theorem ya{kindOf:Str->Option NameKind}{x:Str}{v:Value}:∀{P:List Str} {vs:List Value} {i:Nat} {m:Str->Option Value},P.Nodup->P[i]?=some x->vs[i]?=some v->kindOf x≠some .local->
  bindC kindOf (P.zip vs) m x=some v
 | [],_,_,_,_,h,_,_=>by simp at h
 | _::_,[],_,_,_,_,h,_=>by simp at h
 | p::P,w::vs,0,m,nd,h1,h2,hk=>by
  simp at h1 h2;subst h1;subst h2;show bindC kindOf ((p,w)::P.zip vs) m p=_;unfold bindC;rw[yb fun v hv=>(nodup_cons.mp nd).1 (of_mem_zip hv).1,if_neg hk];simp
 | p::P,w::vs,i+1,m,nd,h1,h2,hk=>by
  show bindC kindOf ((p,w)::P.zip vs) m x=_;unfold bindC;exact ya (i:=i) (nodup_cons.mp nd).2 (by simpa using h1) (by simpa using h2) hk
noncomputable def start(N:List Str)(vs:List V):St:=vs.map some++List.replicate (N.length-vs.length) none
noncomputable def cxOf(CX:CXT)(P:Program)(w:World)(K:Frg)(mg:Str->Option Value)(base:Heap)(N:List Str)(qual:Str)(scope:Scope)(f:Addr)(cd:Value)(A:Around)(outer:List Env)(s:Shared)(H:Hp)(E:XK):Cx where
 prog:=P
 w:=w
 K:=K
 mg:=mg
 base:=base
 A:=A.deeper (envOfC qual scope s.heap.objs.size f cd)
 N:=N
 s₀:=s
 H₀:=H
 env:=envOfC qual scope s.heap.objs.size f cd
 outer:=outer
 stack:=envOfC qual scope s.heap.objs.size f cd::outer
 ex:=[]
 calm:=true
 fn:=fun _=>true
 pn:=[]
 xe:=fun e s'=>wpAny (model P w) (A.deeper (envOfC qual scope s.heap.objs.size f cd)) (leaving (envOfC qual scope s.heap.objs.size f cd) e) (fun _ s''=>CX outer H s E e s'') (fun e' s''=>CX outer H s E e' s'') s'
theorem Yf{sc:Scope}{n:Nat}{x:Str}(h:sc.names.lookup x=some .cell):∃c,(cellsFrom n sc.names []).lookup x=some c:=by
 have q:=PySem.W.cellsFrom_some sc.names n [] (.inl h);exact Option.isSome_iff_exists.mp q
theorem Ko{CX:CXT}{P:Program}{w:World}{K:Frg}{mg:Str->Option Value}{base:Heap}{N ps:List Str}{qual:Str}{scope:Scope}{f:Addr}{cd:Value}{A:Around}{outer:List Env}{s s1:Shared}{H:Hp}{E:XK}{us:List Value}{vs:List V}
  (S:FnScope N ps scope) (hd:A.handled=none) (e0:Env0 P w K mg base A outer s H) (hl:vs.length=ps.length) (r:Vals vs us)
  (x:InCallC s s.heap.objs.size (bindL (envOfC qual scope s.heap.objs.size f cd).kindOf (ps.zip us) fun _=>none) (cellsFrom (s.heap.objs.size+1) scope.names []) (bindC (envOfC qual scope s.heap.objs.size f cd).kindOf (ps.zip us) fun _=>none) s1) :
  Inv (cxOf CX P w K mg base N qual scope f cd A outer s H E) [] (start N vs) H s1:=by
 have hpl:ps.length<=N.length:=by have:=congrArg List.length S.pre;rw[length_take]at this;omega
 obtain⟨h1,tk,rfl,hk⟩:=x.done;have noA:∀b:Addr,b∉(cxOf CX P w K mg base N qual scope f cd A outer s H E).ex:=fun b z=>absurd (show b∈([]:List Addr)from z) (by simp)
 refine⟨⟨e0.mod,S.kind,rfl,rfl,Nat.le_refl _,fun y z c h1 h2=>?_,fun y hy=>?_,fun y c _ h=>?_,fun _=>hd,Around.frames_deeper e0.frames,.inr ⟨rfl,rfl⟩,fun b z=>absurd z (noA b),e0.bs,e0.bsz,fun b _ _=>noA b,fun b z=>absurd z (noA b),e0.funs,e0.frf⟩,
  rfl,e0.bare,Un.kept hk,⟨_,x.toInCall.ns,fun i y v h1 h2 h3=>?_⟩,fun y c h=>⟨_,x.cell y c h⟩,e0.hok.fresh (Nat.le_refl _),fun y c h=>?_,fun p hp=>absurd (show p∈([]:List (Addr×Obj))from hp) (by simp),e0.hok.kept hk,?_⟩
 ·exact name_of_addr x.apart (PySem.mem_of_lookup h1) (PySem.mem_of_lookup h2)
 ·have hy:scope.names.lookup y=some .cell\/scope.names.lookup y=some .free:=hy;rcases hy with hy | hy
  ·exact Yf hy
  ·exact absurd rfl (S.nofree _ (PySem.mem_of_lookup hy))
 ·exact Nat.le_of_lt (x.above y c (PySem.mem_of_lookup h))
 ·have hi:i<vs.length:=by
   unfold start at h2;by_cases hi:i<vs.length
   ·exact hi
   ·rw[List.getElem?_append_right (by simpa using hi)]at h2;rw[List.getElem?_replicate]at h2;split at h2<;>cases h2
  have ha:vs[i]?=some v:=by
   unfold start at h2;rw[List.getElem?_append_left (by simpa using hi),List.getElem?_map]at h2;cases e:vs[i]? with
   | none=>rw[e]at h2;cases h2
   | some a=>rw[e]at h2;cases h2;rfl
  obtain⟨u,hu,rv⟩:=r.get ha;have hp:ps[i]?=some y:=by
   rw[<-S.pre,List.getElem?_take_of_lt (by omega)];exact h1
  have ndP:ps.Nodup:=by rw[<-S.pre];exact S.nd.sublist (take_sublist _ _)
  refine⟨u,rv,?_⟩;rcases S.par y (mem_of_getElem? hp)with k | k
  ·exact .inl ⟨k,yc ndP hp hu k⟩
  ·obtain⟨c,e⟩:=Yf (n:=s.heap.objs.size+1) k;refine .inr ⟨.inl k,c,e,?_⟩;have q:=x.cell y c e;rw[ya ndP hp hu (by show scope.names.lookup y≠_;rw[k];decide)]at q;exact q
 ·exact e0.hok.fresh (Nat.le_of_lt (x.above y c (PySem.mem_of_lookup h)))
 ·unfold start;show _=N.length;rw[List.length_append,length_map,List.length_replicate];omega
theorem xL{CX:CXT}{P:Program}{w:World}{K:Frg}{mg:Str->Option Value}{base:Heap}{k:Nat}{f:Addr}{name qual:Str}{params:Arguments}{body:List Stmt}{scope:Scope}{dV kV doc pm cdv ct oc:Value}{an od:Option Addr}
  {osl:Array (Option Value)} {N ps:List Str} {sp:Sp} (lk:K.lookup f=some ⟨oc,od,.func (PySem.W.fnOf name qual params body scope dV kV doc pm an cdv ct),osl⟩) (hcd:PySem.W.codeIn K cdv qual=true) (S:FnScope N ps scope)
  (len:∀vs H Q E,sp vs H Q E->vs.length=ps.length)
  (hbody:∀(A:Around) (outer:List Env) (s:Shared) (H:Hp) (vs:List V) (Q:VK) (E:XK),Room k (A.deeper (envOfC qual scope s.heap.objs.size f cdv))->sp vs H Q E->
   ∃t,PSs (cxOf CX P w K mg base N qual scope f cdv A outer s H E) body t/\t {nx:=fun _ H'=>Q .non H',rt:=Q} (start N vs) H) :
  FnOk P w K mg base CX (k+1) f (PySem.W.fnOf name qual params body scope dV kV doc pm an cdv ct) ps sp:=by
 refine⟨len,fun A outer s H args us vs Q E hr e0 hb r hsp=>?_⟩;have hl:=len _ _ _ _ hsp;have KX:K.In s.heap:=e0.mod.kin.keeps fun b o e=>(e0.bs b o e).1
 have lim:s.heap.NoLimit:=e0.mod.nolimit.keeps fun b o e=>(e0.bs b o e).1
 have hkind:∀y∈ps.zip us,scope.names.lookup y.1=some .local\/(scope.names.lookup y.1=some .cell/\((cellsFrom (s.heap.objs.size+1) scope.names []).lookup y.1).isSome=true):=fun⟨n,v⟩ hy=>by
  rcases S.par n (of_mem_zip hy).1 with q | q
  ·exact .inl q
  ·exact .inr ⟨q,PySem.W.cellsFrom_some _ _ _ (.inl q)⟩
 refine codeAny_call_function hr.depth (KX _ _ lk) rfl S.co S.gen rfl (PySem.W.codeRec_of KX hcd) (hb _ _ _ _ ?_);refine wpAny_newFunctionEnv_cells S.kind hkind fun env he s1 x=>?_
 subst he;refine⟨lim.keeps x.toInCall.keep,codeAny_func ?_⟩;obtain⟨t,ht,hq⟩:=hbody A outer s H vs Q E (hr.deeper _) hsp;have I:Inv (cxOf CX P w K mg base N qual scope f cdv A outer s H E) [] (start N vs) H s1:=Ko S hr.hd e0 hl r x;refine wpAny_mono (ht [] s1 (start N vs) H _ I hq) (fun fl s' hs=>?_) fun e s' hs=>hs
 have fin:∀{σ':St} {H':Hp} {v:V} {u:Value},Inv (cxOf CX P w K mg base N qual scope f cdv A outer s H E) [] σ' H' s'->RelV v u->Q v H'->CE outer P w H s Q u s':=
  fun {σ' H' v u} J rv q=>⟨v,H',J.os,J.bare,J.base,J.hok,rv,q⟩
 cases fl with
 | ret u=>
  obtain⟨v,σ',H',J,rv,q⟩:=hs;exact fin J rv q
 | next=>
  obtain⟨σ',H',J,q⟩:=hs;exact fin (v:=V.non) (u:=Value.none) J rfl q
 | brk=>
  obtain⟨_,_,_,q⟩:=hs;exact False.elim q
 | cont=>
  obtain⟨_,_,_,q⟩:=hs;exact False.elim q
section
variable{X:Cx}{x:Str}{p pos:Pos}{e:Expr}{es:List Expr}{t:TA}{id T:String}{r:List V->Hp->VK->Prop}
def tCB(r:List V->Hp->VK->Prop)(t:TA):TE:=fun σ H Q=>t σ H fun vs H1=>r vs H1 Q
theorem jq(hc:CallR X (.builtin id) r)(hg:Gl X x)(hm:X.mg x=none)(hv:bootBuiltins x=some (.builtin id))(ha:PA X (e::es) t)(hn:x≠"__name__":=by decide)(hdb:(x==("__debug__" : Str))=false:=by decide)
  (he:starEach (e::es) X.env=(false,eval e X.env)::starEach es X.env:=by rfl) (hpl:(backTo pos (starEach es X.env)).any (·.1)=false:=by rfl):PE X (.Call (.Name x p) (e::es) [] pos) (tCB r t):=by
 intro pins s σ H Q I h;refine wpAny_Call_Name_kw (QE I hg hm hv ?_ hn hdb);exact PyProof.Rows.callWith_builtin1 (thn (ha pos pins s σ H _ I h) fun us s1 ⟨vs,H1,I1,r1,q1⟩=>hc pins s1 σ H1 vs us Q I1 r1 q1) he hpl
theorem Jz(hc:CallR X (.type T) r)(hg:Gl X x)(hm:X.mg x=none)(hv:bootBuiltins x=some (.type T))(ha:PA X (e::es) t)(hn:x≠"__name__":=by decide)(hdb:(x==("__debug__" : Str))=false:=by decide)
  (he:starEach (e::es) X.env=(false,eval e X.env)::starEach es X.env:=by rfl) (hpl:(backTo pos (starEach es X.env)).any (·.1)=false:=by rfl):PE X (.Call (.Name x p) (e::es) [] pos) (tCB r t):=by
 intro pins s σ H Q I h;refine wpAny_Call_Name_kw (QE I hg hm hv ?_ hn hdb);exact PyProof.Rows.callWith_type1 (thn (ha pos pins s σ H _ I h) fun us s1 ⟨vs,H1,I1,r1,q1⟩=>hc pins s1 σ H1 vs us Q I1 r1 q1) he hpl
end
end L2
namespace HT
open PySem PyProof.Rows
section
open PySem.SeqAt
open PySem.AutoSeq1 (wpAny_loadPart')
open PySem.MeetsSeq PySem.MeetsSeq2 PySem.MeetsSeq3
end
section
variable{prog:Program}{w:World}{A:Around}{E:Value->Shared->Prop}{s:Shared}
theorem wV{t b:Addr}{vs ws:List Value}{Q:Value->Shared->Prop}(ht:IsTup s.heap t vs.toArray)(hb:IsTup s.heap b ws.toArray)(hv:vs≠[])
  (h1:ws=[]->Q (.ref t) s) (h2:ws≠[]->Q (.ref s.heap.objs.size) {s with heap:=s.heap.push {cls:=.type "tuple",data:=.seq (vs++ws).toArray}})
  (hsz:vs.length+ws.length<=sizeLine):wpAny (model prog w) A (binaryOp .Add (.ref t) (.ref b)) Q E s:=by
 obtain⟨⟨cls,dd,data,sl⟩,ho,hc,n,hd⟩:=id ht;obtain⟨⟨cls2,dd2,data2,sl2⟩,ho2,hc2,n2,hd2⟩:=id hb;simp only at hc hd hc2 hd2;subst hc hd hc2 hd2;have e:vs.toArray++ws.toArray=(vs++ws).toArray:=by simp
 by_cases hw:ws=[]
 ·exact concat_meets ⟨_,ho,rfl⟩ ⟨_,ho2,rfl⟩ noFill_tuple_add seq_tuple_add PySem.F.slot_tuple_add PySem.F.entry_tuple_add (PySem.F.args_tuple_add_2 _ _)
   (tuple_addW1 t b vs.toArray ws.toArray n n2 dd dd2 sl sl2 (by simpa using hv) (by simp[hw])) ⟨ho,ho2,h1 hw⟩
 ·refine concat_meets ⟨_,ho,rfl⟩ ⟨_,ho2,rfl⟩ noFill_tuple_add seq_tuple_add PySem.F.slot_tuple_add PySem.F.entry_tuple_add (PySem.F.args_tuple_add_2 _ _)
   (tuple_addW2 t b vs.toArray ws.toArray n n2 dd dd2 sl sl2 (by simpa using hv) (by simpa using hw) (by rw[size_toArray,size_toArray];exact hsz)) ⟨ho,ho2,?_⟩
  rw[e];exact h2 hw
noncomputable def sIx(n d:Nat):Option Int->Nat
 | none=>d
 | some v=>if v<0 then(v+(n:Int)).toNat else min v.toNat n
theorem qE(n d k:Nat):sIx n d (some (k:Int))=min k n:=by
 show(if(k:Int)<0 then((k:Int)+(n:Int)).toNat else min (k:Int).toNat n)=min k n;rw[if_neg (by omega),Int.toNat_natCast]
theorem xC(n d:Nat)(hd:d<=n)(o:Option Int):sIx n d o<=n:=by
 cases o with
 | none=>exact hd
 | some v=>
  show(if v<0 then(v+(n:Int)).toNat else min v.toNat n)<=n;by_cases hv:v<0
  ·rw[if_pos hv];omega
  ·rw[if_neg hv];exact Nat.min_le_right _ _
theorem kA(v:Int)(n d:Nat):(if v<0 then max (v+(n:Int)) 0 else min v (n:Int))=((sIx n d (some v):Nat):Int):=by
 show(if v<0 then max (v+(n:Int)) 0 else min v (n:Int))=(((if v<0 then(v+(n:Int)).toNat else min v.toNat n):Nat):Int)
 by_cases hv:v<0
 ·simp only[if_pos hv];omega
 ·simp only[if_neg hv];omega
theorem YY(lo hi:Option Int)(n:Nat):Builtin.Slice.sliceAdjust lo hi 1 (n:Int)=(((sIx n 0 lo:Nat):Int),((sIx n n hi:Nat):Int)):=by
 have h1:¬((1:Int)<0):=by omega
 unfold Builtin.Slice.sliceAdjust;simp only[h1,if_false];refine Prod.ext ?_ ?_
 ·cases lo with
  | none=>rfl
  | some v=>exact kA v n 0
 ·cases hi with
  | none=>rfl
  | some v=>exact kA v n n
theorem km(i j:Nat):Builtin.Slice.slicePlaces (i:Int) (j:Int) 1=j-i:=by
 unfold Builtin.Slice.slicePlaces;have h1:(1:Int)>0:=by omega
 simp only[h1,if_true,Int.ediv_one];split<;>omega
theorem slicePart_{v:Value}{o:Option Int}{Q:Option Int->Shared->Prop}(p:IsPart v o)(h:Q o s):wpAny (model prog w) A (Builtin.Slice.slicePartIndex v) Q E s:=by
 cases p with
 | none=>exact slicePart_none h
 | int i t=>exact slicePart_int h
theorem zT{sl:Addr}{vl vu:Value}{lo hi:Option Int}{n:Nat}{Q:Int×Int×Nat->Shared->Prop}(hs:s.heap.IsSliceOf sl vl vu .none)(pl:IsPart vl lo)(pu:IsPart vu hi)
  (h:Q (((sIx n 0 lo:Nat):Int),1,sIx n n hi-sIx n 0 lo) s):wpAny (model prog w) A (Builtin.Slice.sliceApplied (.ref sl) (pure (n:Int))) Q E s:=by
 obtain⟨os,hos,hcs,hds⟩:=id hs;unfold Builtin.Slice.sliceApplied Builtin.Slice.sliceFields;refine wpAny_bind (wpAny_bind (wpAny_field hos hds (x:=vl) rfl (wpAny_bind (wpAny_field hos hds (x:=vu) rfl (wpAny_bind (wpAny_field hos hds (x:=.none) rfl (wpAny_pure ?_)))))));refine wpAny_bind (slicePart_none ?_);show wpAny _ _ (if((1:Int)==0)=true then _ else _) _ _ s;rw[if_neg (by decide)];refine wpAny_bind (slicePart_ pl (wpAny_bind (slicePart_ pu (wpAny_bind (wpAny_pure ?_)))));show wpAny _ _ (match Builtin.Slice.sliceAdjust lo hi 1 (n:Int)with | (lo,hi)=>pure (lo,(1:Int),Builtin.Slice.slicePlaces lo hi 1)) _ _ s;rw[YY lo hi n];show wpAny _ _ (pure (((sIx n 0 lo:Nat):Int),(1:Int),Builtin.Slice.slicePlaces ((sIx n 0 lo:Nat):Int) ((sIx n n hi:Nat):Int) 1)) _ _ s;rw[km];exact wpAny_pure h
theorem wE(xs:Array Value)(i k:Nat):((List.range k).filterMap fun(m:Nat)=>xs[((i:Int)+(m:Int)*1).toNat]?).toArray=((xs.toList.drop i).take k).toArray:=by
 have e:(fun(m:Nat)=>xs[((i:Int)+(m:Int)*1).toNat]?)=fun m=>xs[i+m]?:=by
  funext m;have:((i:Int)+(m:Int)*1).toNat=i+m:=by omega
  rw[this]
 rw[e];have:=pick_run xs i k;rw[List.filterMap_map]at this;have e2:((fun x=>xs[x]?)∘fun x=>i+x)=fun m=>xs[i+m]?:=rfl
 rw[e2]at this;rw[this]
theorem zC{t sl:Addr}{items:Array Value}{vl vu:Value}{lo hi:Option Int}{Q:Value->Shared->Prop}(ht:IsTup s.heap t items)(hs:s.heap.IsSliceOf sl vl vu .none)(pl:IsPart vl lo)(pu:IsPart vu hi)
  (hw:¬(sIx items.size 0 lo=0/\sIx items.size items.size hi=items.size))
  (h:Q (.ref s.heap.objs.size) {s with heap:=s.heap.push {cls:=.type "tuple",data:=.seq ((items.toList.drop (sIx items.size 0 lo)).take (sIx items.size items.size hi-sIx items.size 0 lo)).toArray}})
  (hsz:items.size<=sizeLine):wpAny (model prog w) A (getItem (.ref t) (.ref sl)) Q E s:=by
 have htake:sizeOk (.seq ((items.toList.drop (sIx items.size 0 lo)).take (sIx items.size items.size hi-sIx items.size 0 lo)).toArray):=by
  show((items.toList.drop (sIx items.size 0 lo)).take (sIx items.size items.size hi-sIx items.size 0 lo)).toArray.size<=sizeLine;rw[size_toArray,length_take,length_drop,Array.length_toList];omega
 have hj:sIx items.size items.size hi<=items.size:=xC _ _ (Nat.le_refl _) hi;obtain⟨os,hos,hcs,hds⟩:=id hs;have hTs:s.TypeIs (.ref sl) "slice":=⟨os,hos,hcs⟩
 unfold getItem
 try with_reducible refine wpAny_holding ?_
 first | refine wpAny_bind (wpAny_pure ?_) | skip
 refine wpAny_bind (wpAny_sequenceKey ht.typeIs (by decide) ?_);refine wpAny_bind (wpAny_callSpecial?_slot (name:=Str.ofString "__getitem__") ht.typeIs PyProof.Rows.slot_tuple_getitem
  (wpAny_call_entry PyProof.Rows.slot_tuple_getitem ht.typeIs entry_tuple_getitem ?_ (args_tuple_getitem _ _)))
 show wpAny _ _ (Builtin.Tuple.tupleItemsOf (.ref t) >>= _) _ _ s;refine wpAny_bind (tupleItemsOf_ ht ?_);refine wpAny_bind (wpAny_typeOf hTs ?_);rw[if_pos (by decide)];refine wpAny_bind (zT hs pl pu ?_);have hno:¬((((sIx items.size 0 lo:Nat):Int)==0&&(1:Int)==1&&(sIx items.size items.size hi-sIx items.size 0 lo)==items.size)=true):=by
  intro q;rw[Bool.and_eq_true,Bool.and_eq_true]at q;have q1:((sIx items.size 0 lo:Nat):Int)=0:=eq_of_beq q.1.1;have q2:sIx items.size items.size hi-sIx items.size 0 lo=items.size:=eq_of_beq q.2;exact hw ⟨by omega,by omega⟩
 show wpAny _ _ (if(((sIx items.size 0 lo:Nat):Int)==0&&(1:Int)==1&&(sIx items.size items.size hi-sIx items.size 0 lo)==items.size)=true then _ else _) _ _ s;rw[if_neg hno,wE]
 first
  | exact wpAny_bind (m:=Builtin.Tuple.tupleExact _) (wpAny_newObj_type (wpAny_pure ⟨_,rfl,wpAny_pure h⟩) htake)
  | exact wpAny_bind (m:=Builtin.Tuple.tupleExact _) (wpAny_newObj_type (wpAny_bind (wpAny_pure (wpAny_pure ⟨_,rfl,wpAny_pure h⟩))) htake)
  | exact wpAny_bind (wpAny_bind (m:=Builtin.Tuple.tupleExact _) (wpAny_newObj_type (wpAny_pure (wpAny_pure ⟨_,rfl,wpAny_pure h⟩)) htake))
  | exact wpAny_bind (wpAny_bind (m:=Builtin.Tuple.tupleExact _) (wpAny_newObj_type (wpAny_pure ⟨_,rfl,wpAny_pure h⟩) htake))
end
end HT
namespace L2
open PySem PySem.Spec PyProof.Rows
noncomputable abbrev TO:=St->Hp->(Option Int->Hp->Prop)->Prop
def PO(X:Cx)(e:Option Expr)(t:TO):Prop:=
 ∀(pins:List (Addr×Obj)) (s:Shared) (σ:St) (H:Hp) (Q:Option Int->Hp->Prop),Inv X pins σ H s->t σ H Q->
  wpAny (model X.prog X.w) X.A (evalPart e X.env) (fun u s'=>∃o H',Inv X pins σ H' s'/\IsPart u o/\Q o H') X.xe s
def tNoPart:TO:=fun _ H Q=>Q none H
def tPart(t:TE):TO:=fun σ H Q=>t σ H fun x H1=>∃i,x = .int i/\Q (some i) H1
theorem intsAre_of{ns:List Int}:∀{us:List Value},Vals (ns.map V.int) us->IntsAre us ns:=by
 induction ns with
 | nil=>intro us r;rw[map_nil]at r;cases r;exact .nil
 | cons n ns ih=>
  intro us r;rw[map_cons]at r;cases r with
  | cons r1 r2=>
   obtain⟨t,e⟩:=r1;subst e;exact .cons n t (ih r2)
section
variable{X:Cx}{e:Expr}{te:TE}{lo hi:Option Expr}{tl th:TO}{pos p2:Pos}
theorem qD:PO X none tNoPart:=by
 intro pins s σ H Q I h;rw[evalPart_none];exact wpAny_pure ⟨none,H,I,.none,h⟩
theorem j9(h:PE X e te):PO X (some e) (tPart te):=by
 intro pins s σ H Q I hw;rw[evalPart_some];refine thn (h pins s σ H _ I hw) fun u s1 ⟨x,H1,I1,r1,q1⟩=>?_
 obtain⟨i,rfl,q⟩:=q1;obtain⟨t,rfl⟩:=r1;exact⟨some i,H1,I1,.int i t,q⟩
def SlR(X:Cx)(r:V->Option Int->Option Int->Hp->VK->Prop):Prop:=
 ∀(pins:List (Addr×Obj)) (s:Shared) (σ:St) (H:Hp) (x:V) (v vl vu:Value) (lo hi:Option Int) (sl:Addr) (Q:VK),Inv X pins σ H s->RelV x v->s.heap.IsSliceOf sl vl vu .none->IsPart vl lo->IsPart vu hi->r x lo hi H Q->
  ∃T id,typeLookup (.type T) "__getitem__"= pure (some (.builtin id))/\s.TypeIs v T/\wpAny (model X.prog X.w) X.A (getItem v (.ref sl)) (EP X pins σ Q) X.xe s
def tSl(r:V->Option Int->Option Int->Hp->VK->Prop)(te:TE)(tl th:TO):TE:=fun σ H Q=>te σ H fun x H1=>tl σ H1 fun l H2=>th σ H2 fun u H3=>r x l u H3 Q
theorem Jb{r:V->Option Int->Option Int->Hp->VK->Prop}(hr:SlR X r)(he:PE X e te)(hl:PO X lo tl)(hu:PO X hi th):PE X (.Subscript e (.Slice lo hi none p2) pos) (tSl r te tl th):=by
 intro pins s σ H Q I h;refine Subscript_ (thn (he pins s σ H _ I h) fun v s1 ⟨x,H1,I1,r1,q1⟩=>?_);refine wpAny_Slice (thn (hl pins s1 σ H1 _ I1 q1) fun vl s2 ⟨l,H2,I2,pl,q2⟩=>thn (hu pins s2 σ H2 _ I2 q2) fun vu s3 ⟨u,H3,I3,pu,q3⟩=>?_);rw[evalPart_none];refine wpAny_pure ?_;have I4:Inv X pins σ H3 {s3 with heap:=s3.heap.push {cls:=.type "slice",data:=.fields #[vl,vu,.none]}}:=I3.kept (t':=s3.toks) fun b ob q=>Heap.get?_push_of_some _ q
 obtain⟨T,id,hT,ht,hg⟩:=hr pins {s3 with heap:=s3.heap.push {cls:=.type "slice",data:=.fields #[vl,vu,.none]}} σ H3 x v vl vu l u s3.heap.objs.size Q I4 r1 (Heap.IsSliceOf.new ..) pl pu q3;show wpAny (model X.prog X.w) X.A (subscriptTail e (.Slice lo hi none p2) v (.ref s3.heap.objs.size)) (EP X pins σ Q) X.xe {s3 with heap:=s3.heap.push {cls:=.type "slice",data:=.fields #[vl,vu,.none]}};exact tail_any (ops:=[.ref s3.heap.objs.size,v]) ht hT hg (by with_unfolding_all rfl)
noncomputable def cutV(xs:List V)(lo hi:Option Int):List V:=(xs.drop (HT.sIx xs.length 0 lo)).take (HT.sIx xs.length xs.length hi-HT.sIx xs.length 0 lo)
theorem Za(xs:List V)(lo hi:Option Int):(cutV xs lo hi).length<=xs.length:=by
 unfold cutV;rw[length_take,length_drop];omega
noncomputable def rSlT(K:Frg):V->Option Int->Option Int->Hp->VK->Prop:=fun x lo hi H Q=>∃a xs,x = .ref a/\SqT K H a xs/\
 ¬(HT.sIx xs.length 0 lo=0/\HT.sIx xs.length xs.length hi=xs.length)/\∀p,H p=none->Q (.ref p) (upd H p (.tup (cutV xs lo hi)))
theorem wO:SlR X (rSlT X.K):=by
 intro pins s σ H x v vl vu lo hi sl Q I rx hs pl pu h;obtain⟨a,xs,rfl,hx,hw,q⟩:=h;cases rx;obtain⟨its,r,ht,hz⟩:=I.tuple hx;have hlen:its.toArray.size=xs.length:=by rw[size_toArray];exact r.length.symm
 refine⟨"tuple",_,PyProof.Rows.slot_tuple_getitem.lookup,ht.typeIs,?_⟩;refine HT.zC ht hs pl pu (by rw[hlen];exact hw) ?_ (by rw[hlen];exact hz);rw[hlen];refine⟨.ref s.heap.objs.size,_,I.laid (t':=s.toks) (o:=.tup (cutV xs lo hi)) (fun b ob q=>Heap.get?_push_of_some _ q) (Nat.le_refl _) ?_,rfl,q _ (I.hok.fresh (Nat.le_refl _))⟩;exact⟨Nat.le_trans (Za xs lo hi) hz,_,(r.drop (HT.sIx xs.length 0 lo)).take (HT.sIx xs.length xs.length hi-HT.sIx xs.length 0 lo),IsTup.new _ _⟩
def rCatT(K:Frg):R2:=fun x y H Q=>∃a b xs ys,x = .ref a/\y = .ref b/\SqT K H a xs/\SqT K H b ys/\xs≠[]/\xs.length+ys.length<=sizeLine/\
 (ys=[]->Q (.ref a) H)/\(ys≠[]->∀p,H p=none->Q (.ref p) (upd H p (.tup (xs++ys))))
theorem Vals.nil_iff{xs:List V}{us:List Value}(r:Vals xs us):us=[]↔xs=[]:=by
 cases r with
 | nil=>simp
 | cons _ _=>simp
theorem Wv:OpR X (binaryOp .Add) (rCatT X.K):=by
 intro pins s σ H x y v u Q I rx ry h;obtain⟨a,b,xs,ys,rfl,rfl,ha,hb,hx,hz,q1,q2⟩:=h;cases rx;cases ry;obtain⟨its,r1,p1,_⟩:=I.tuple ha;obtain⟨its2,r2,p2,_⟩:=I.tuple hb;refine HT.wV p1 p2 (fun z=>hx (r1.nil_iff.mp z)) (fun z=>⟨.ref a,H,I,rfl,q1 (r2.nil_iff.mp z)⟩) (fun z=>?_) (by rw[<-r1.length,<-r2.length];exact hz);refine⟨.ref s.heap.objs.size,_,I.laid (t':=s.toks) (o:=.tup (xs++ys)) (fun b ob q=>Heap.get?_push_of_some _ q) (Nat.le_refl _) ?_,rfl,q2 (fun w=>z (r2.nil_iff.mpr w)) _ (I.hok.fresh (Nat.le_refl _))⟩;exact⟨by rw[List.length_append];exact hz,_,r1.append r2,IsTup.new _ _⟩
end
noncomputable def ixN(n:Nat)(i:Int):Option Nat:=if 0<=i then(if i<n then some i.toNat else none)else if -(n:Int)<=i then some (i+n).toNat else none
noncomputable def atI{α:Type}(xs:List α)(i:Int):Option α:=(ixN xs.length i).bind fun j=>xs[j]?
theorem Wi{n:Nat}{i:Int}{j:Nat}(h:ixN n i=some j):seqIndex? i n=some j/\j<n/\-(n:Int)<=i/\i<n:=by
 unfold ixN at h;by_cases h0:0<=i
 ·rw[if_pos h0]at h;by_cases h1:i<n
  ·rw[if_pos h1]at h;have e:i.toNat=j:=Option.some.inj h;exact⟨by rw[seqIndex_of h0 h1,e],by omega,by omega,h1⟩
  ·rw[if_neg h1]at h;cases h
 ·rw[if_neg h0]at h;by_cases h1 : -(n:Int)<=i
  ·rw[if_pos h1]at h;have e:(i+n).toNat=j:=Option.some.inj h;exact⟨by rw[seqIndex_neg (by omega) h1,e],by omega,h1,by omega⟩
  ·rw[if_neg h1]at h;cases h
theorem yD{α:Type}{xs:List α}{i:Int}{v:α}(h:atI xs i=some v):∃j,seqIndex? i xs.length=some j/\xs[j]?=some v/\j<xs.length/\-(xs.length:Int)<=i/\i<xs.length:=by
 unfold atI at h;cases e:ixN xs.length i with
 | none=>rw[e]at h;cases h
 | some j=>
  rw[e]at h;obtain⟨h1,h2,h3,h4⟩:=Wi e;exact⟨j,h1,h,h2,h3,h4⟩
theorem Jn{α:Type}{xs:List α}{j:Nat}{v:α}(h:xs[j]?=some v):atI xs (j:Int)=some v:=by
 have hj:j<xs.length:=(List.getElem?_eq_some_iff.mp h).1;have e:ixN xs.length (j:Int)=some j:=by
  unfold ixN;rw[if_pos (by omega),if_pos (by omega)];simp
 unfold atI;rw[e];exact h
theorem KQ{α:Type}(xs:List α)(v:α):atI (xs++[v]) (-1)=some v:=by
 have hl:(xs++[v]).length=xs.length+1:=by simp
 have e:ixN (xs++[v]).length (-1)=some xs.length:=by
  unfold ixN;rw[hl,if_neg (by decide),if_pos (by omega)];congr 1;omega
 unfold atI;rw[e];show(xs++[v])[xs.length]?=some v;simp
def PlainIx(b:Expr):Prop:=∀o i,subscripted b false o i=operate [o,i] (getItem o i)
def IxR(X:Cx)(r:R2):Prop:=
 ∀(value slice:Expr) (pins:List (Addr×Obj)) (s:Shared) (σ:St) (H:Hp) (x y:V) (v u:Value) (Q:VK),Inv X pins σ H s->RelV x v->RelV y u->r x y H Q->
  subscripted slice false v u=operate [v,u] (getItem v u)->wpAny (model X.prog X.w) X.A (subscriptTail value slice v u) (EP X pins σ Q) X.xe s
def MtR(X:Cx)(id:String)(r:V->List V->Hp->VK->Prop):Prop:=
 ∀(pins:List (Addr×Obj)) (s:Shared) (σ:St) (H:Hp) (x:V) (xs:List V) (v:Value) (us:List Value) (Q:VK),Inv X pins σ H s->RelV x v->Vals xs us->r x xs H Q->
  wpAny (model X.prog X.w) X.A (call (.builtin id) (v::us)) (EP X pins σ Q) X.xe s
section
variable{X:Cx}{a b:Expr}{ta tb:TE}{pos:Pos}
theorem ji{r:R2}(hr:IxR X r)(ha:PE X a ta)(hb:PE X b tb)(hs:PlainIx b:=by exact fun _ _=>rfl):PE X (.Subscript a b pos) (tOp r ta tb):=by
 intro pins s σ H Q I h;exact Subscript_ (binT ha hb I h fun v u s2 x y H2 I2 rx ry q=>hr a b pins s2 σ H2 x y v u Q I2 rx ry q (hs _ _))
def rIxL(K:Frg):R2:=fun x y H Q=>∃p xs i v,x = .ref p/\y = .int i/\SqL K H p xs/\atI xs i=some v/\Q v H
def rIxT(K:Frg):R2:=fun x y H Q=>∃p xs i v,x = .ref p/\y = .int i/\SqT K H p xs/\atI xs i=some v/\Q v H
def rIxS:R2:=fun x y H Q=>∃z i c,x = .str z/\y = .int i/\z.length<=sizeLine/\atI z.cps.toList i=some c/\Q (.str ⟨#[c]⟩) H
theorem jp:IxR X (rIxL X.K):=by
 intro value slice pins s σ H x y v u Q I rx ry h hs;obtain⟨p,xs,i,z,rfl,rfl,hq,he,q⟩:=h;cases rx;obtain⟨t,rfl⟩:=ry;obtain⟨its,r,pl,hz⟩:=I.list hq;obtain⟨j,h1,h2,h3,h4,h5⟩:=yD he;obtain⟨w,ew,rw'⟩:=r.get h2;have hl:=r.length;have hn:=line63;have fin:EP X pins σ Q w s:=⟨z,H,I,rw',q⟩
 by_cases h0:0<=i
 ·have hj:i.toNat=j:=by
   rw[seqIndex_of h0 h5]at h1;exact Option.some.inj h1
  exact item_listR pl.isList h0 (by omega) (by rw[hj];simpa using ew) fin hs
 ·have hj:(i+(its.toArray.size:Int)).toNat=j:=by
   rw[seqIndex_neg (by omega) h4]at h1;rw[size_toArray,<-hl];exact Option.some.inj h1
  exact subscriptTail_builtinR (x:=w) pl.isList.typeIs slot_list_getitem.lookup
   (wpAny_getItem_list_neg (Q:=fun r s'=>r=w/\EP X pins σ Q r s') pl.isList (by omega) (by rw[size_toArray]<;>omega) (by omega) (by rw[hj];simpa using ew) ⟨rfl,fin⟩) hs
theorem jC:IxR X (rIxT X.K):=by
 intro value slice pins s σ H x y v u Q I rx ry h hs;obtain⟨p,xs,i,z,rfl,rfl,hq,he,q⟩:=h;cases rx;obtain⟨t,rfl⟩:=ry;obtain⟨its,r,pl,hz⟩:=I.tuple hq;obtain⟨j,h1,h2,h3,h4,h5⟩:=yD he;obtain⟨w,ew,rw'⟩:=r.get h2;have hl:=r.length;have hn:=line63;have fin:EP X pins σ Q w s:=⟨z,H,I,rw',q⟩
 exact subscriptTail_builtinR (x:=w) pl.typeIs slot_tuple_getitem.lookup
  (getItem_tuple (j:=j) (Q:=fun r s'=>r=w/\EP X pins σ Q r s') pl (by omega) (by omega) (by rw[size_toArray,<-hl];exact h1) (by simpa using ew) ⟨rfl,fin⟩) hs
theorem kb:IxR X rIxS:=by
 intro value slice pins s σ H x y v u Q I rx ry h hs;obtain⟨z,i,c,rfl,rfl,hz,he,q⟩:=h;obtain⟨t,rfl⟩:=rx;obtain⟨t',rfl⟩:=ry;obtain⟨j,h1,h2,h3,h4,h5⟩:=yD he;have hl:z.cps.toList.length=z.length:=by simp[Str.length]
 rw[hl]at h1 h4 h5;have hn:=line63;exact tail_any (typeIs_str s z t) slot_str_getitem.lookup (getItem_str (c:=c) (by
  have e1:decide (i < -(2^63:Int))=false:=decide_eq_false (by omega);have e2:decide (i>=2^63)=false:=decide_eq_false (by omega);rw[e1,e2,Bool.or_false]) (by rw[h1];simpa using h2) ⟨.str ⟨#[c]⟩,H,I.tok _,⟨_,rfl⟩,q⟩) hs
theorem y4(lo hi:Option Int)(n:Nat):(sliceBounds lo hi none n).1=((HT.sIx n 0 lo:Nat):Int)/\(sliceBounds lo hi none n).2.1=((HT.sIx n n hi:Nat):Int)/\(sliceBounds lo hi none n).2.2=1:=by
 refine⟨?_,?_,rfl⟩
 ·cases lo with
  | none=>simp[sliceBounds,HT.sIx]
  | some i=>
   simp only[sliceBounds,HT.sIx,Option.getD_none,show(1:Int)>0 by decide,if_true];by_cases h:i<0
   ·simp only[h,if_true]<;>omega
   ·simp only[h,if_false]<;>omega
 ·cases hi with
  | none=>simp[sliceBounds,HT.sIx]
  | some i=>
   simp only[sliceBounds,HT.sIx,Option.getD_none,show(1:Int)>0 by decide,if_true];by_cases h:i<0
   ·simp only[h,if_true]<;>omega
   ·simp only[h,if_false]<;>omega
theorem Z8(its:List Value)(lo hi:Option Int):slicePick its.toArray lo hi none=((its.drop (HT.sIx its.length 0 lo)).take (HT.sIx its.length its.length hi-HT.sIx its.length 0 lo)).toArray:=by
 obtain⟨h1,h2,h3⟩:=y4 lo hi its.toArray.size;unfold slicePick;rw[h1,h2,h3];simp only[sliceRange_one,pick_run,size_toArray]<;>rfl
noncomputable def rSlL(K:Frg):V->Option Int->Option Int->Hp->VK->Prop:=fun x lo hi H Q=>∃a xs,x = .ref a/\SqL K H a xs/\∀p,H p=none->Q (.ref p) (upd H p (.lst (cutV xs lo hi)))
theorem Qg:SlR X (rSlL X.K):=by
 intro pins s σ H x v vl vu lo hi sl Q I rx hs pl pu h;obtain⟨a,xs,rfl,hx,q⟩:=h;cases rx;obtain⟨its,r,ht,hz⟩:=I.list hx;have hlen:=r.length;refine⟨"list",_,slot_list_getitem.lookup,ht.isList.typeIs,?_⟩;refine wpAny_getItem_list_slice ht.isList hs pl pu .none (by simp) ?_ (by rw[size_toArray]<;>omega);rw[Z8,<-hlen];refine⟨.ref s.heap.objs.size,_,I.laid (t':=s.toks) (o:=.lst (cutV xs lo hi)) (fun b ob q=>Heap.get?_push_of_some _ q) (Nat.le_refl _) ?_,rfl,q _ (I.hok.fresh (Nat.le_refl _))⟩;exact⟨Nat.le_trans (Za xs lo hi) hz,_,0,(r.drop (HT.sIx xs.length 0 lo)).take (HT.sIx xs.length xs.length hi-HT.sIx xs.length 0 lo),Heap.get?_push_size _ rfl⟩
noncomputable def flatV:V->Bool
 | .non=>true
 | .bl _=>true
 | .int _=>true
 | .str _=>true
 | _=>false
noncomputable def eqV:V->V->Bool
 | .non,.non=>true
 | .bl a,.bl b=>a==b
 | .bl a,.int b=>(if a then 1 else 0)==b
 | .int a,.bl b=>a==(if b then 1 else 0)
 | .int a,.int b=>a==b
 | .str a,.str b=>a==b
 | _,_=>false
theorem W9{A:Around}{s:Shared}{y x:V}{u v:Value}(ry:RelV y u)(rx:RelV x v)(fy:flatV y=true)(fx:flatV x=true):SeqAt.EqAt A s u v (eqV y x):=by
 cases y with
 | non=>
  cases ry;cases x with
  | non=>cases rx;exact SeqAt.EqAt.same _
  | bl b=>cases rx;exact SeqAt.EqAt.none_bool b
  | int b=>obtain⟨t,rfl⟩:=rx;exact SeqAt.EqAt.none_int b t
  | str b=>obtain⟨t,rfl⟩:=rx;exact SeqAt.EqAt.none_str b t
  | _=>exact absurd (show false=true from fx) Bool.false_ne_true
 | bl a=>
  cases ry;cases x with
  | non=>cases rx;exact SeqAt.EqAt.bool_none a
  | bl b=>cases rx;exact SeqAt.EqAt.bool_bool a b
  | int b=>obtain⟨t,rfl⟩:=rx;exact SeqAt.EqAt.bool_int a b t
  | str b=>obtain⟨t,rfl⟩:=rx;exact SeqAt.EqAt.bool_str a b t
  | _=>exact absurd (show false=true from fx) Bool.false_ne_true
 | int a=>
  obtain⟨t',rfl⟩:=ry;cases x with
  | non=>cases rx;exact SeqAt.EqAt.int_none a t'
  | bl b=>cases rx;exact SeqAt.EqAt.int_bool a t' b
  | int b=>obtain⟨t,rfl⟩:=rx;exact SeqAt.EqAt.int_int a t' b t
  | str b=>obtain⟨t,rfl⟩:=rx;exact SeqAt.EqAt.int_str a t' b t
  | _=>exact absurd (show false=true from fx) Bool.false_ne_true
 | str a=>
  obtain⟨t',rfl⟩:=ry;cases x with
  | non=>cases rx;exact SeqAt.EqAt.str_none a t'
  | bl b=>cases rx;exact SeqAt.EqAt.str_bool a t' b
  | int b=>obtain⟨t,rfl⟩:=rx;exact SeqAt.EqAt.str_int a t' b t
  | str b=>obtain⟨t,rfl⟩:=rx;exact SeqAt.EqAt.str_str a t' b t
  | _=>exact absurd (show false=true from fx) Bool.false_ne_true
 | _=>exact absurd (show false=true from fy) Bool.false_ne_true
noncomputable def eqU(x:V)(u:Value):Bool:=match u with
 | .none=>eqV .non x
 | .bool b=>eqV (.bl b) x
 | .int i _=>eqV (.int i) x
 | .str z _=>eqV (.str z) x
 | _=>false
theorem wa{x y:V}{u:Value}(r:RelV y u)(f:flatV y=true):eqU x u=eqV y x:=by
 cases y with
 | non=>cases r;rfl
 | bl b=>cases r;rfl
 | int i=>obtain⟨t,rfl⟩:=r;rfl
 | str z=>obtain⟨t,rfl⟩:=r;rfl
 | _=>exact absurd (show false=true from f) Bool.false_ne_true
theorem zt{x:V}:∀{xs:List V} {us:List Value},Vals xs us->xs.all flatV=true->us.any (eqU x)=xs.any fun y=>eqV y x
 | _,_,.nil,_=>rfl
 | y::xs,u::us,.cons r t,f=>by
  rw[all_cons,Bool.and_eq_true]at f;rw[any_cons,any_cons,wa r f.1,zt t f.2]
theorem QT{A:Around}{s:Shared}{x:V}{v:Value}(rx:RelV x v)(fx:flatV x=true):∀{xs:List V} {us:List Value},Vals xs us->xs.all flatV=true->∀u∈us,SeqAt.EqAt A s u v (eqU x u)
 | _,_,.nil,_=>fun u hu=>by cases hu
 | y::xs,u::us,.cons r t,f=>fun u' hu=>by
  rw[all_cons,Bool.and_eq_true]at f;rcases mem_cons.mp hu with rfl | hu
  ·rw[wa r f.1];exact W9 r rx f.1 fx
  ·exact QT rx fx t f.2 u' hu
noncomputable def inV(x:V)(xs:List V):Bool:=xs.any fun y=>eqV y x
def rIn(K:Frg)(neg:Bool):R2:=fun x y H Q=>∃p xs,y = .ref p/\(SqL K H p xs\/SqT K H p xs)/\flatV x=true/\xs.all flatV=true/\Q (.bl (if neg then !inV x xs else inV x xs)) H
theorem zQ:OpR X (compareOp .In) (rIn X.K false):=by
 intro pins s σ H x y v u Q I rx ry h;obtain⟨p,xs,rfl,hq,fx,fs,q⟩:=h;cases ry;rcases hq with hq | hq
 ·obtain⟨its,r,pl,hz⟩:=I.list hq;refine SeqAt.in_listAt (eqU x) pl.isList (fun w hw=>QT rx fx r fs w (by simpa using hw)) ⟨.bl _,H,I,rfl,?_⟩;rw[show its.toArray.any (eqU x)=its.any (eqU x) by simp,zt r fs];exact q
 ·obtain⟨its,r,pl,hz⟩:=I.tuple hq;refine SeqAt.in_tupleAt (eqU x) pl (fun w hw=>QT rx fx r fs w (by simpa using hw)) ⟨.bl _,H,I,rfl,?_⟩;rw[show its.toArray.any (eqU x)=its.any (eqU x) by simp,zt r fs];exact q
theorem yY:OpR X (compareOp .NotIn) (rIn X.K true):=by
 intro pins s σ H x y v u Q I rx ry h;obtain⟨p,xs,rfl,hq,fx,fs,q⟩:=h;cases ry;rcases hq with hq | hq
 ·obtain⟨its,r,pl,hz⟩:=I.list hq;refine SeqAt.notIn_listAt (eqU x) pl.isList (fun w hw=>QT rx fx r fs w (by simpa using hw)) ⟨.bl _,H,I,rfl,?_⟩;rw[show its.toArray.any (eqU x)=its.any (eqU x) by simp,zt r fs];exact q
 ·obtain⟨its,r,pl,hz⟩:=I.tuple hq;refine SeqAt.notIn_tupleAt (eqU x) pl (fun w hw=>QT rx fx r fs w (by simpa using hw)) ⟨.bl _,H,I,rfl,?_⟩;rw[show its.toArray.any (eqU x)=its.any (eqU x) by simp,zt r fs];exact q
theorem zw:CallR X (.type "list") (fun xs H Q=>∃p ys,xs=[.ref p]/\(SqL X.K H p ys\/SqT X.K H p ys)/\∀l,H l=none->Q (.ref l) (upd H l (.lst ys))):=by
 intro pins s σ H xs us Q I r h;obtain⟨p,ys,rfl,hq,q⟩:=h;obtain⟨u,rfl,rx⟩:=vals1 r;cases rx;have fin:∀(its:List Value),Vals ys its->ys.length<=sizeLine->∀(h':Heap) (c':Nat),(∀b o',s.heap.get? b=some o'->h'.get? b=some o')->
   h'.get? s.heap.objs.size=some {cls:=.type "list",dict:=none,data:=.seq its.toArray c',slots:=#[]}->EP X pins σ Q (.ref s.heap.objs.size) {s with heap:=h'}:=fun its r' hz h' c' kp e=>
  ⟨.ref s.heap.objs.size,_,I.laid (t':=s.toks) kp (Nat.le_refl _) (show ObjOk X.prog X.w _ h' _ (.lst ys)from⟨hz,its,c',r',e⟩),rfl,q _ (I.hok.fresh (Nat.le_refl _))⟩
 rcases hq with hq | hq
 ·obtain⟨its,r',pl,hz⟩:=I.list hq;have hlen:=r'.length;obtain⟨o,ho,hc,n,hd⟩:=pl.isList;exact call_list_seq p (.inl rfl) ho hc hd (fun h' c' kp e=>fin its r' hz h' c' kp e) (by simp only[size_toArray]<;>omega)
 ·obtain⟨its,r',pl,hz⟩:=I.tuple hq;have hlen:=r'.length;obtain⟨o,ho,hc,n,hd⟩:=pl;exact call_list_seq p (.inr rfl) ho hc hd (fun h' c' kp e=>fin its r' hz h' c' kp e) (by simp only[size_toArray]<;>omega)
theorem qz:CallR X (.type "tuple") (fun xs H Q=>∃p ys,xs=[.ref p]/\((SqL X.K H p ys/\∀l,H l=none->Q (.ref l) (upd H l (.tup ys)))\/(SqT X.K H p ys/\Q (.ref p) H))):=by
 intro pins s σ H xs us Q I r h;obtain⟨p,ys,rfl,h⟩:=h;obtain⟨u,rfl,rx⟩:=vals1 r;cases rx;rcases h with⟨hq,q⟩ | ⟨hq,q⟩
 ·obtain⟨its,r',pl,hz⟩:=I.list hq;have hlen:=r'.length;refine call_tuple_list pl.isList (fun h' kp=>?_) (by simp only[size_toArray]<;>omega);have I1:Inv X pins σ H {s with heap:=h'}:=I.kept (t':=s.toks) kp;have I2:Inv X pins σ (upd H h'.objs.size (.tup ys)) {s with heap:=h'.push {cls:=.type "tuple",data:=.seq its.toArray}}:=
   I1.laid (t':=s.toks) (fun b o e=>Heap.get?_push_of_some _ e) (Nat.le_refl _) (show ObjOk X.prog X.w _ _ _ (.tup ys)from⟨hz,its,r',IsTup.new _ _⟩)
  exact⟨.ref h'.objs.size,_,I2,rfl,q _ (I1.hok.fresh (Nat.le_refl _))⟩
 ·obtain⟨its,r',pl,hz⟩:=I.tuple hq;exact call_tuple_same pl ⟨.ref p,H,I,rfl,q⟩
def tyV(K:Frg)(T:String)(x:V)(H:Hp):Prop:=match x with
 | .str _=>T = "str"
 | .int _=>T = "int"
 | .ref p=>(T = "list"/\∃xs,SqL K H p xs)\/(T = "tuple"/\∃o,K.lookup p=some o/\o.cls = .type "tuple"/\o.dict=none)\/
   (T = "dict"/\((∃kvs,H p=some (.dK kvs))\/∃kvs,H p=some (.dT kvs)))\/(T = "set"/\∃S n,H p=some (.set S n))
 | _=>False
theorem xF{pins:List (Addr×Obj)}{σ:St}{H:Hp}{s:Shared}{T:String}{x:V}{v:Value}(I:Inv X pins σ H s)(r:RelV x v)(ty:tyV X.K T x H) :
  s.TypeIs v T/\∀a,v = .ref a->∃ob,s.heap.get? a=some ob/\ob.dict=none:=by
 cases x with
 | str z=>
  obtain⟨t,rfl⟩:=r;cases(show T = "str" from ty);exact⟨typeIs_str s z t,fun _ e=>nomatch e⟩
 | int i=>
  obtain⟨t,rfl⟩:=r;cases(show T = "int" from ty);exact⟨typeIs_int s i t,fun _ e=>nomatch e⟩
 | ref p=>
  cases r;rcases ty with⟨rfl,xs,hq⟩ | ⟨rfl,o,hk,hc,hd⟩ | ⟨rfl,hk⟩ | ⟨rfl,S,n,hk⟩
  ·obtain⟨its,_,pl,_⟩:=I.list hq;refine⟨pl.isList.typeIs,fun a e=>?_⟩;cases e;obtain⟨o,n,e,c,hd,_⟩:=pl;exact⟨o,e,hd⟩
  ·refine⟨⟨o,I.kIn p o hk,hc⟩,fun a e=>?_⟩;cases e;exact⟨o,I.kIn _ o hk,hd⟩
  ·have z:∃o,s.heap.get? p=some o/\o.ExactDict:=by
    rcases hk with⟨kvs,hk⟩ | ⟨kvs,hk⟩
    ·obtain⟨_,_,_,_,o,_,_,e,ex,_⟩:=I.hok p _ hk;exact⟨o,e,ex⟩
    ·obtain⟨_,_,_,_,o,_,_,e,ex,_⟩:=I.hok p _ hk;exact⟨o,e,ex⟩
   obtain⟨o,e,ex⟩:=z;refine⟨⟨o,e,ex.1⟩,fun a e2=>?_⟩;cases e2;exact⟨o,e,ex.2.1⟩
  ·obtain⟨o,_,_,_,e,ex,_⟩:=I.hok p _ hk;refine⟨⟨o,e,ex.1⟩,fun a e2=>?_⟩;cases e2;exact⟨o,e,ex.2.1⟩
 | _=>exact False.elim ty
def tBM(K:Frg)(T:String)(r:V->List V->Hp->VK->Prop)(to:TE)(t:TA):TE:=fun σ H Q=>to σ H fun x H1=>tyV K T x H1/\t σ H1 fun xs H2=>r x xs H2 Q
variable{o e:Expr}{es:List Expr}{to:TE}{t:TA}{name:Str}{apos cpos:Pos}{T id:String}{r:V->List V->Hp->VK->Prop}
theorem qO(pa:PlainAttrs T)(slot:Slot T name id)(hty:typeOf (.builtin id)=pure (.type "method_descriptor"))(hm:MtR X id r)(ho:PE X o to)(ha:PA X (e::es) t)
  (hbase:attributeBase o name X.env (eval o X.env)=eval o X.env:=by rfl)
  (hfew:((backTo cpos (starEach (e::es) X.env)).all (fun x=>!x.1)&&(backToKw cpos (keywordEach [] X.env)).all (fun x=>x.1.isSome)
   && decide ((e::es).length+([]:List Keyword).length+(if([]:List Keyword).isEmpty then 0 else 1)<30))=true:=by rfl)
  (hline:(apos.endLine==cpos.line)=true:=by rfl) (hs:starEach (e::es) X.env=(false,eval e X.env)::starEach es X.env:=by rfl) (hplain:(backTo cpos (starEach es X.env)).any (·.1)=false:=by rfl) :
  PE X (.Call (.Attribute o name apos) (e::es) [] cpos) (tBM X.K T r to t):=by
 intro pins s σ H Q I h;refine wpAny_Call_method_late hbase hfew hline rfl (thn (ho pins s σ H _ I h) fun v s1 ⟨x,H1,I1,r1,ty,q1⟩=>?_);obtain⟨h1,h2⟩:=xF I1 r1 ty;refine⟨T,id,pa,slot,hty,h1,h2,?_⟩;have hA:=ha cpos pins s1 σ H1 _ I1 q1;rw[hs]at hA|-;refine Calls.callWith_builtin (by show(false||(backTo cpos (starEach es X.env)).any (·.1))=false;rw[hplain]<;>rfl) (Calls.evalArgs_plain ?_);exact thn hA fun us s2 ⟨vs,H2,I2,r2,q2⟩=>hm pins s2 σ H2 x vs v us Q I2 r1 r2 q2
end
def MtM(X:Cx)(id:String)(r:V->List V->Hp->VK->Prop):Prop:=
 ∀(pins:List (Addr×Obj)) (s:Shared) (σ:St) (H:Hp) (x:V) (xs:List V) (v:Value) (us:List Value) (Q:VK),Inv X pins σ H s->RelV x v->Vals xs us->r x xs H Q->
  wpAny (model X.prog X.w) X.A (call (.builtin id) (v::us)) (EP X pins σ Q) X.xe s
theorem Vals.one:∀{x:V} {us:List Value},Vals [x] us->∃u,us=[u]/\RelV x u
 | _,_,.cons r .nil=>⟨_,rfl,r⟩
section
variable{X:Cx}{pins:List (Addr×Obj)}{σ:St}{H:Hp}{s:Shared}{l b:Addr}{xs ys zs:List V}
theorem Inv.lset{its its':List Value}{n:Nat}{f:Array Value->Array Value}{t':Nat}(I:Inv X pins σ H s)(hH:H l=some (.lst xs))
  (e:s.heap.get? l=some {cls:=.type "list",data:=.seq its.toArray n}) (hf:f its.toArray=its'.toArray) (hv:Vals ys its') (hz:ys.length<=sizeLine) :
  Inv X pins σ (upd H l (.lst ys)) {s with heap:=s.heap.update l (Obj.mapSeq f),toks:=t'}:=by
 have q:=PySem.IsL.update e f;rw[hf]at q;refine I.write (x:=l) (e:=l) (by rw[hH];exact trivial) (.inl rfl) (fun b' u hb hu=>(Heap.get?_update_other s.heap (Obj.mapSeq f) (Ne.symm hb)).trans hu) ⟨_,q⟩ ?_;exact⟨hz,its',_,hv,q⟩
theorem Inv.lnew{its:List Value}{t':Nat}(I:Inv X pins σ H s)(hv:Vals ys its)(hz:ys.length<=sizeLine) :
  Inv X pins σ (upd H s.heap.objs.size (.lst ys)) {s with heap:=s.heap.push {cls:=.type "list",data:=.seq its.toArray},toks:=t'}:=
 I.laid (fun _ _ q=>Heap.get?_push_of_some _ q) (Nat.le_refl _) ⟨hz,its,0,hv,Heap.get?_push_size _ rfl⟩
theorem Inv.fresh(I:Inv X pins σ H s):H s.heap.objs.size=none:=I.hok.fresh (Nat.le_refl _)
theorem Inv.lstM(I:Inv X pins σ H s)(hH:H l=some (.lst xs)):xs.length<=sizeLine/\∃(its:List Value) (n:Nat),Vals xs its/\xs.length=its.length/\s.heap.get? l=some {cls:=.type "list",data:=.seq its.toArray n}:=by
 obtain⟨z,its,n,r,e⟩:=I.hok l _ hH;exact⟨z,its,n,r,r.length,e⟩
end
section
variable{X:Cx}
noncomputable def rAppend:V->List V->Hp->VK->Prop:=fun x vs H Q=>∃l xs y,x = .ref l/\vs=[y]/\H l=some (.lst xs)/\xs.length<sizeLine/\Q .non (upd H l (.lst (xs++[y])))
theorem jP:MtM X "list.append" rAppend:=by
 intro pins s σ H x vs v us Q I rx rv h;obtain⟨l,xs,y,rfl,rfl,hH,hz,q⟩:=h;cases rx;obtain⟨u,rfl,ru⟩:=rv.one;obtain⟨z,its,n,r,hl,e⟩:=I.lstM hH;refine call_meets F.slot_list_append ⟨_,e,rfl⟩ F.entry_list_append (F.args_list_append_2 _ _) (PySem.list_append l its.toArray n u (by rw[size_toArray];omega)) ⟨e,?_⟩;refine⟨.non,_,I.lset (its':=its++[u]) hH e (by simp) (r.append (.cons ru .nil)) ?_,rfl,q⟩;rw[List.length_append,length_singleton];omega
def rCat:R2:=fun x y H Q=>∃l b xs zs,x = .ref l/\y = .ref b/\H l=some (.lst xs)/\H b=some (.lst zs)/\xs.length+zs.length<=sizeLine/\∀p,H p=none->Q (.ref p) (upd H p (.lst (xs++zs)))
theorem kh:OpR X (binaryOp .Add) rCat:=by
 intro pins s σ H x y v u Q I rx ry h;obtain⟨l,b,xs,zs,rfl,rfl,hH,hB,hz,q⟩:=h;cases rx;cases ry;obtain⟨z,its,n,r,hl,e⟩:=I.lstM hH;obtain⟨z2,its2,n2,r2,hl2,e2⟩:=I.lstM hB;refine PySem.P.add_list e e2 ?_ (by rw[size_toArray,size_toArray];omega);have ea:its.toArray++its2.toArray=(its++its2).toArray:=by simp
 rw[ea];exact⟨.ref _,_,I.lnew (t':=s.toks) (r.append r2) (by rw[List.length_append];omega),rfl,q _ I.fresh⟩
end
section
variable{prog:Program}{w:World}{A:Around}{E:Value->Shared->Prop}{s:Shared}
end
section
variable{X:Cx}
end
end L2
namespace Att
open PySem PySem.W PySem.Calls PyProof.Rows
theorem Ze{P:Params}{h:Heap}:∀(ns:List Int) (vs:List Value),WellAll P h vs (ns.map WData.int)->IntsAre vs ns:=by
 intro ns
 induction ns with
 | nil=>
  intro vs w;rw[map_nil]at w;cases w;exact .nil
 | cons n ns ih=>
  intro vs w;rw[map_cons]at w;cases w with
  | cons a b=>
   cases a;exact .cons _ _ (ih _ b)
theorem KF{l:OpenLaw}{n:Nat}(hn:l.most=some n){P:Params}{h:Heap}{args:List WData}{vals:List Value}
  (hpre:l.row.toRowW.claim.pre args=true) (hwl:WellAll P h vals args) :
  ∃a vs ns,vals=[Value.ref a]/\args=[WData.list (ns.map WData.int)]/\h.get? a=some {cls:=.type "list",data:=.seq vs.toArray}/\IntsAre vs ns/\ns.length<=n:=by
 have hsh:WShape.hasAll [] args [.list .int]=true:=(pre_splitW hpre).1;have hc:l.pre.holds [] {args:=args}=true:=(pre_splitW hpre).2;obtain⟨d,r,rfl,h1,h2⟩:=hasAllW_cons hsh;obtain rfl:=hasAllW_nil h2;obtain⟨xs,rfl,h3⟩:=hasW_list h1;obtain⟨ns,rfl⟩:=items_int h3;have hlen:ns.length<=n:=by
  unfold OpenLaw.pre at hc;have h4:(WTm.not (.lt (.lit (.int (n:Int))) (.len (.arg 0)))).holds [] {args:=[.list (ns.map .int)]}=true:=by
   have h4:=(holds_andW hc).1;rw[hn]at h4;exact h4
  have h5:=condW_of h4 (w_not (w_lt w_lit (w_len_list (w_arg rfl))));rw[length_map]at h5;refine Nat.le_of_not_lt fun q=>?_
  have q':(n:Int)<((ns.length:Nat):Int):=by omega
  first
   | (rw[decide_eq_true q']at h5;exact absurd h5 (by decide))
   | (simp at h5;omega)
 cases hwl with
 | cons w1 w2=>
  cases w2;cases w1 with
  | list ho hall=>exact⟨_,_,ns,rfl,rfl,ho,Ze ns _ hall,hlen⟩
theorem KA(l:OpenLaw)(args:List WData):l.row.toRowW.claim.post args (.bool true) args=true:=
 postW_of (r:=l.row.toRowW) (X:=(true==true))
  (show WShape.has [] (.bool true) .bool=true by first | rfl | decide | simp[WShape.has,WShape.arms,WShape.armsAll])
  (show(WTm.eq .res (.lit (.bool true))).value [] {args:=args,res:=some (.bool true),after:=args}=some (.bool (true==true))from w_eq_bool (w_res rfl) w_lit) rfl
section
variable{prog:Program}{w:World}{A:Around}{E:Value->Shared->Prop}{s:Shared}{K:Frag}
end
end Att
namespace L2
open PySem PySem.Spec PyProof.Rows
theorem yz:∀{vs:List Value} {ns:List Int},IntsAre vs ns->Vals (ns.map V.int) vs
 | _,_,.nil=>.nil
 | _,_,.cons n t h=>.cons ⟨t,rfl⟩ (yz h)
def Only(H:Hp):Prop:=∀b,H b=none\/∃o xs,H b=some (.frz o (.lst xs))
theorem wj{P:Program}{w:World}{K:Frg}{mg mb:Str->Option Value}{CX:CXT}{k:Nat}{fa a:Addr}{fd:FuncData}{x:Str}{sp:Sp}{s₁:Shared}{vs:List Value}{ns:List Int}
  (KX:K.In s₁.heap) (hns:s₁.heap.Ns mainGlobals mg) (hb:s₁.heap.Ns builtinsNs mb) (hbb:∀x:Str,x≠"__name__"->mb x=bootBuiltins x) (hlim:s₁.heap.NoLimit) (hg:s₁.gens = #[])
  (ha:s₁.heap.get? a=some {cls:=.type "list",data:=.seq vs.toArray}) (hi:IntsAre vs ns) (hl:ns.length<=sizeLine) (hr:Room k callerA)
  (F:∀base:Heap,K.In base->base.Ns mainGlobals mg->FnOk P w K mg base CX k fa fd [x] sp) (hbind:∀(s:Shared) (u:Value),BindsTo s fd ⟨[u],[]⟩ [(x,u)])
  (hsp:∀H:Hp,Only H->SqL K H a (ns.map V.int)->sp [.ref a] H (fun v _=>v = .bl true) fun _ _ _=>False)
  (hCX:∀H e s',CX [] H s₁ (fun _ _ _=>False) e s'->False) :
  codeAny (model P w) callerA (.call (.ref fa) ⟨[.ref a],[]⟩) (fun r s'=>r = .ok (.ret (.bool true))/\OldK s₁.heap s'.heap/\s'.os=s₁.os/\AllBare s'.gens) s₁:=by
 have rv:=yz hi;have lenV:=hi.length;have core:∀H:Hp,Only H->SqL K H a (ns.map V.int)->HOk P w H s₁.heap->(∀b,H b≠none->b=a)->(H a≠none->K.lookup a=none)->
   codeAny (model P w) callerA (.call (.ref fa) ⟨[.ref a],[]⟩) (fun r s'=>r = .ok (.ret (.bool true))/\OldK s₁.heap s'.heap/\s'.os=s₁.os/\AllBare s'.gens) s₁:=by
  intro H hO hS hok hA hK;have base_of:∀{b:Addr} {o:Obj},s₁.heap.get? b=some o->H b=none->(hidT s₁.heap H).get? b=some o:=fun e n=>wd e n
  have noA:∀{b:Addr} {o:Obj} {es:Array DictEntry} {ep:Nat},s₁.heap.get? b=some o->o.data = .dict es ep->H b=none:=fun {b o es ep} e d=>by
   cases q:H b with
   | none=>rfl
   | some u=>
    have e':b=a:=hA b (by rw[q];simp);subst e';rw[ha]at e;cases e;have d':Data.seq vs.toArray _=Data.dict es ep:=d;cases d'
  have nsK:∀{b:Addr} {m:Str->Option Value},s₁.heap.Ns b m->(hidT s₁.heap H).Ns b m:=fun {b m} ⟨o,es,ep,e,d,r⟩=>⟨o,es,ep,base_of e (noA e d),d,r⟩
  have hKb:K.In (hidT s₁.heap H):=fun b o e=>base_of (KX b o e) (by
   cases q:H b with
   | none=>rfl
   | some u=>
    have e':b=a:=hA b (by rw[q];simp);subst e';rw[hK (by rw[q];simp)]at e;cases e)
  have hM:Mod K mg (hidT s₁.heap H):=⟨hKb,nsK hns,⟨mb,nsK hb,hbb⟩,let ⟨mc,h1,h2⟩:=hlim;⟨mc,nsK h1,h2⟩⟩
  have e0:Env0 P w K mg (hidT s₁.heap H) callerA [] s₁ H:=⟨rfl,hM,fun b o e=>Wt e,Nat.le_of_eq (Kn _ _),trivial,fun b hb=>absurd (show b∈([]:List Addr)from hb) (by simp),hok,.of_eq hg⟩
  refine codeAny_mono ((F _ hKb (nsK hns)).run callerA [] s₁ H ⟨[.ref a],[]⟩ [.ref a] [.ref a] _ _ hr e0 (hbind s₁ (.ref a)) (.cons rfl .nil) (hsp H hO hS)) fun r s' h=>?_
  cases r with
  | error e=>exact(hCX H e s' h).elim
  | ok fl=>
   cases fl with
   | next=>exact False.elim h
   | brk=>exact False.elim h
   | cont=>exact False.elim h
   | ret u=>
    obtain⟨v,H',os,bare,un,hok',r',q⟩:=h;have q':v = .bl true:=q;subst q';obtain rfl:u=Value.bool true:=r';refine⟨rfl,OldK.of_keep fun b o e=>?_,os,bare⟩;cases q:H b with
    | none=>exact un.keep b o e q (by intro z;exact absurd (show b∈([]:List Addr)from z) (by simp)) (by simp)
    | some u=>
     rcases hO b with z | ⟨ob,xs,z⟩
     ·rw[q]at z;cases z
     ·have z2:=un.frzs b ob _ z;obtain⟨e1,_⟩:=hok b _ z;obtain⟨e2,_⟩:=hok' b _ z2;rw[e]at e1;cases e1;exact e2
 cases hk:K.lookup a with
 | some o=>
  have e:=KX a o hk;rw[ha]at e;cases e;refine core (fun _=>none) (fun _=>.inl rfl) (.inr ⟨_,vs.toArray,_,hk,rfl,rfl,rfl,by rw[size_toArray,lenV];exact hl,by simpa using rv⟩) (fun b u z=>by have z':(none:Option HO)=some u:=z;cases z') (fun b z=>absurd rfl z) fun z=>absurd rfl z
 | none=>
  refine core (fun b=>if b=a then some (.frz {cls:=.type "list",data:=.seq vs.toArray} (.lst (ns.map V.int)))else none) (fun b=>?_) (.inl (.inr ⟨{cls:=.type "list",data:=.seq vs.toArray},if_pos rfl⟩)) (fun b u z=>?_) (fun b z=>?_) fun _=>hk
  ·by_cases hb:b=a
   ·exact .inr ⟨_,_,if_pos hb⟩
   ·exact .inl (if_neg hb)
  ·by_cases hb:b=a
   ·have z':=(if_pos hb).symm.trans z;cases z';subst hb;exact⟨ha,by rw[length_map];exact hl,vs,_,rv,ha⟩
   ·have z':=(if_neg hb).symm.trans z;cases z'
  ·by_cases hb:b=a
   ·exact hb
   ·exact absurd (if_neg hb) z
noncomputable abbrev KOf{K:Frg}{h:Heap}(_:K.In h):Frg:=K
noncomputable def defArgs(s:Stmt):Arguments:=match s with
 | .FunctionDef _ a _ _ _ _ _ _ _ _=>a
 | _=>{posonlyargs:=[],args:=[],vararg:=none,kwonlyargs:=[],kw_defaults:=[],kwarg:=none,defaults:=[]}
noncomputable def defBody(s:Stmt):List Stmt:=match s with
 | .FunctionDef _ _ b _ _ _ _ _ _ _=>b
 | _=>[]
noncomputable def defScope(s:Stmt):Scope:=match s with
 | .FunctionDef _ _ _ _ _ _ sc _ _ _=>sc
 | _=>{kind:=.function,names:=[],isGenerator:=false,isCoroutine:=false}
noncomputable abbrev CX0:CXT:=fun _ _ _ _ _ _=>False
noncomputable abbrev E0:XK:=fun _ _ _=>False
theorem pass0{X:Cx}:Passes CX0 X E0:=fun _ _ _ _ _ _ _ h=>h.elim
structure Fun(K:Frg)(x qual:Str)(st:Stmt)(f:Addr)(fd:FuncData):Prop where
 ex:∃(oc:Value) (od:Option Addr) (kV doc pm:Value) (an:Option Addr) (cdv ct:Value) (osl:Array (Option Value)),
  fd=PySem.W.fnOf x qual (defArgs st) (defBody st) (defScope st) .none kV doc pm an cdv ct/\K.lookup f=some ⟨oc,od,.func fd,osl⟩/\PySem.W.codeIn K cdv qual=true
 kp:PySem.W.keepIn K (.ref f)=true
section
variable{P:Program}{w:World}{K:Frg}{mg:Str->Option Value}{base:Heap}
theorem Fun.ok{x qual:Str}{st:Stmt}{f:Addr}{fd:FuncData}{N ps:List Str}{k:Nat}{sp:Sp}(F:Fun K x qual st f fd)(S:FnScope N ps (defScope st))(len:∀vs H Q E,sp vs H Q E->vs.length=ps.length)
  (hbody:∀(cdv:Value) (A:Around) (outer:List Env) (s:Shared) (H:Hp) (vs:List V) (Q:VK) (E:XK),Room k (A.deeper (envOfC qual (defScope st) s.heap.objs.size f cdv))->sp vs H Q E->
   ∃t,PSs (cxOf CX0 P w K mg base N qual (defScope st) f cdv A outer s H E).nox (defBody st) t/\t {nx:=fun _ H'=>Q .non H',rt:=Q} (start N vs) H):FnOk P w K mg base CX0 (k+1) f fd ps sp:=by
 obtain⟨oc,od,kV,doc,pm,an,cdv,ct,osl,rfl,lk,hcd⟩:=F.ex;refine xL lk hcd S len fun A outer s H vs Q E hr hsp=>?_
 obtain⟨t,h,q⟩:=hbody cdv A outer s H vs Q E hr hsp;exact⟨t,h.nox,q⟩
theorem Fun.binds{x qual:Str}{st:Stmt}{f:Addr}{fd:FuncData}{ps:List Str}(F:Fun K x qual st f fd)
  (h:∀(kV doc pm:Value) (an:Option Addr) (cdv ct:Value) (us:List Value),us.length=ps.length->bindArgs (PySem.W.fnOf x qual (defArgs st) (defBody st) (defScope st) .none kV doc pm an cdv ct) ⟨us,[]⟩=pure (ps.zip us)):Binds K fd ps []:=by
 obtain⟨oc,od,kV,doc,pm,an,cdv,ct,osl,rfl,lk,hcd⟩:=F.ex;exact .all (h kV doc pm an cdv ct)
theorem j7{x qual:Str}{st:Stmt}{f:Addr}{oc:Value}{od an:Option Addr}{osl:Array (Option Value)}{kV doc pm cdv ct:Value}(l:K.lookup f=some ⟨oc,od,.func (PySem.W.fnOf x qual (defArgs st) (defBody st) (defScope st) .none kV doc pm an cdv ct),osl⟩)
  (c:PySem.W.codeIn K cdv qual=true) (k:PySem.W.keepIn K (.ref f)=true):Fun K x qual st f (PySem.W.fnOf x qual (defArgs st) (defBody st) (defScope st) .none kV doc pm an cdv ct):=⟨⟨oc,od,kV,doc,pm,an,cdv,ct,osl,rfl,l,c⟩,k⟩
end
theorem jI{A:Around}{k:Nat}(hr:Room k A):A.units+1<cLine:=Nat.lt_of_le_of_lt (Nat.add_le_add_left (by decide:1<=64) _) hr.units
section
variable{X:Cx}
theorem pv(i:Nat){x:Str}{pos:Pos}(hN:X.N[i]?=some x:=by rfl)(hv:Vis X.env.scope x:=by first | exact Or.inl rfl | exact Or.inr (Or.inl rfl) | exact Or.inr (Or.inr rfl))(hd:(x==("__debug__" : Str))=false:=by decide)
  (hcd:(x==("__classdict__" : Str))=false:=by decide):PE X (.Name x pos) (tVar i):=xx hN hv hd hcd
end
theorem iteF{A B:Prop}(h:B):if false=true then A else B:=by
 rw[if_neg Bool.false_ne_true];exact h
theorem iteT{A B:Prop}(h:A):if true=true then A else B:=by
 rw[if_pos rfl];exact h
def Same(H H':Hp):Prop:=∀b o,H b=some o->H' b=some o
theorem Same.refl(H:Hp):Same H H:=fun _ _ h=>h
theorem Same.trans{H H1 H2:Hp}(a:Same H H1)(b:Same H1 H2):Same H H2:=fun c o h=>b c o (a c o h)
theorem Same.seq{K:Frg}{H H':Hp}{a:Addr}{xs:List V}(e:Same H H')(h:SqL K H a xs):SqL K H' a xs:=by
 rcases h with(h | ⟨o,h⟩) | h
 ·exact .inl (.inl (e _ _ h))
 ·exact .inl (.inr ⟨o,e _ _ h⟩)
 ·exact .inr h
section
variable{κ:Type}[DecidableEq κ]
noncomputable def valV(kvs:List (κ×V))(k:κ):Option V:=(kvs.find? fun kv=>decide (kv.1=k)).map (·.2)
noncomputable def putK(kvs:List (κ×V))(k:κ)(v:V):List (κ×V):=
 if(kvs.any fun kv=>decide (kv.1=k))=true then kvs.map (fun kv=>if kv.1=k then(kv.1,v)else kv)else kvs++[(k,v)]
theorem ZV{p:κ×V}{r:List (κ×V)}{k:κ}(e:p.1=k):valV (p::r) k=some p.2:=by simp[valV,List.find?_cons,e]
theorem ZU{p:κ×V}{r:List (κ×V)}{k:κ}(e:¬p.1=k):valV (p::r) k=valV r k:=by simp[valV,List.find?_cons,e]
theorem QY(k:κ):∀kvs:List (κ×V),(kvs.any fun kv=>decide (kv.1=k))=(valV kvs k).isSome
 | []=>rfl
 | p::r=>by
  rw[any_cons];by_cases e:p.1=k
  ·simp only[ZV e,decide_eq_true e,Bool.true_or,Option.isSome_some]
  ·rw[ZU e,decide_eq_false e,Bool.false_or];exact QY k r
theorem QS(kvs:List (κ×V))(k:κ)(v:V):(putK kvs k v).length<=kvs.length+1:=by
 unfold putK;split
 ·rw[length_map];omega
 ·rw[List.length_append,length_cons,length_nil];omega
theorem RelO.isSome_eq{o:Option V}{u:Option Value}(r:RelO o u):o.isSome=u.isSome:=by
 cases o with
 | none=>cases u with
  | none=>rfl
  | some _=>exact(show False from r).elim
 | some _=>cases u with
  | none=>exact(show False from r).elim
  | some _=>rfl
theorem KV.val{kvs:List (κ×V)}{vs:List (κ×Value)}(r:KV kvs vs)(k:κ):RelO (valV kvs k) (valueAt vs k):=by
 unfold KV at r
 induction r with
 | nil=>exact True.intro
 | @cons p q ps qs h t ih=>
  obtain⟨h1,h2⟩:=h;by_cases e:p.1=k
  ·have e':q.1=k:=h1.symm.trans e;have b:valueAt (q::qs) k=some q.2:=by simp[valueAt,List.find?_cons,e']
   rw[ZV e,b];exact h2
  ·have e':¬q.1=k:=fun z=>e (h1.trans z)
   have b:valueAt (q::qs) k=valueAt qs k:=by simp[valueAt,List.find?_cons,e']
   rw[ZU e,b];exact ih
theorem KV.any{kvs:List (κ×V)}{vs:List (κ×Value)}(r:KV kvs vs)(k:κ):(kvs.any fun kv=>decide (kv.1=k))=vs.any fun kv=>decide (kv.1=k):=by
 unfold KV at r
 induction r with
 | nil=>rfl
 | cons h t ih=>rw[any_cons,any_cons,ih,h.1]
theorem KV.repl{kvs:List (κ×V)}{vs:List (κ×Value)}(r:KV kvs vs)(k:κ){y:V}{u:Value}(ry:RelV y u) :
  KV (kvs.map fun kv=>if kv.1=k then(kv.1,y)else kv) (vs.map fun kv=>if kv.1=k then(kv.1,u)else kv):=by
 unfold KV at r|-
 induction r with
 | nil=>exact .nil
 | @cons p q ps qs h t ih=>
  rw[map_cons,map_cons];refine .cons ?_ ih;obtain⟨h1,h2⟩:=h;by_cases e:p.1=k
  ·rw[if_pos e,if_pos (h1.symm.trans e)];exact⟨h1,ry⟩
  ·rw[if_neg e,if_neg (fun z=>e (h1.trans z))];exact⟨h1,h2⟩
theorem KV.put{kvs:List (κ×V)}{vs:List (κ×Value)}(r:KV kvs vs)(k:κ){y:V}{u:Value}(ry:RelV y u):KV (putK kvs k y) (stored vs k u):=by
 unfold putK stored;rw[r.any k];by_cases e:(vs.any fun kv=>decide (kv.1=k))=true
 ·rw[if_pos e,if_pos e];exact r.repl k ry
 ·rw[if_neg e,if_neg e];exact Paired.snoc r ⟨rfl,ry⟩
theorem KV.length{kvs:List (κ×V)}{vs:List (κ×Value)}(r:KV kvs vs):kvs.length=vs.length:=Paired.length r
end
theorem yq{P:Program}{w:World}{k:Key}{u:Value}(r:RelV (kV k) u):(mixKind P w).is k u=true:=by
 cases k with
 | inl i=>obtain⟨t,e⟩:=(show∃t,u=Value.int i t from r);subst e;exact Yt P w i t
 | inr x=>obtain⟨t,e⟩:=(show∃t,u=Value.str x t from r);subst e;exact Yu P w x t
theorem yp{P:Program}{w:World}:∀{ks:List Key} {us:List Value},Vals (ks.map kV) us->ItemsAre (mixKind P w) ks us
 | [],_,r=>by rw[map_nil]at r;cases r;exact .nil
 | k::ks,_,r=>by
  rw[map_cons]at r;cases r with
  | cons h t=>exact .cons (yq h) (yp t)
noncomputable abbrev KT(H:Hp):List (List Key×V)->List (List Key×Addr×Value)->Prop:=Paired fun p q=>p.1=q.1/\H q.2.1=some (.tup (p.1.map kV))/\RelV p.2 q.2.2
theorem KT.val{H:Hp}{kvs:List (List Key×V)}{xs:List (List Key×Addr×Value)}(r:KT H kvs xs)(k:List Key):RelO (valV kvs k) ((atKey xs k).map (·.2)):=by
 induction r with
 | nil=>exact True.intro
 | @cons p q ps qs h t ih=>
  obtain⟨h1,_,h2⟩:=h;by_cases e:p.1=k
  ·have e':q.1=k:=h1.symm.trans e;have b:atKey (q::qs) k=some q.2:=by simp[atKey,List.find?_cons,e']
   rw[ZV e,b];exact h2
  ·have e':¬q.1=k:=fun z=>e (h1.trans z)
   have b:atKey (q::qs) k=atKey qs k:=by simp[atKey,List.find?_cons,e']
   rw[ZU e,b];exact ih
theorem KT.repl{H:Hp}{kvs:List (List Key×V)}{xs:List (List Key×Addr×Value)}(r:KT H kvs xs)(k:List Key){y:V}{u:Value}(ry:RelV y u) :
  KT H (kvs.map fun kv=>if kv.1=k then(kv.1,y)else kv) (xs.map (putAt k u)):=by
 induction r with
 | nil=>exact .nil
 | @cons p q ps qs h t ih=>
  rw[map_cons,map_cons];refine .cons ?_ ih;obtain⟨h1,h2,h3⟩:=h;unfold putAt;by_cases e:p.1=k
  ·rw[if_pos e,if_pos (h1.symm.trans e)];exact⟨h1,h2,ry⟩
  ·rw[if_neg e,if_neg (fun z=>e (h1.trans z))];exact⟨h1,h2,h3⟩
theorem KT.put{H:Hp}{kvs:List (List Key×V)}{xs:List (List Key×Addr×Value)}(r:KT H kvs xs)(k:List Key){b:Addr}{y:V}{u:Value}(hb:H b=some (.tup (k.map kV)))(ry:RelV y u) :
  KT H (putK kvs k y) (storedH xs k b u):=by
 have e:(kvs.any fun kv=>decide (kv.1=k))=(atKey xs k).isSome:=by
  rw[QY,(r.val k).isSome_eq,Option.isSome_map]
 unfold putK storedH;rw[e];by_cases q:(atKey xs k).isSome=true
 ·rw[if_pos q,if_pos q];exact r.repl k ry
 ·rw[if_neg q,if_neg q];exact Paired.snoc r ⟨rfl,hb,ry⟩
theorem KT.keeps{H H':Hp}{kvs:List (List Key×V)}{xs:List (List Key×Addr×Value)}(r:KT H kvs xs)(ht:∀b ys,H b=some (.tup ys)->H' b=some (.tup ys)):KT H' kvs xs:=
 Paired.mapP r fun _ _ z=>⟨z.1,ht _ _ z.2.1,z.2.2⟩
section
variable{P:Program}{w:World}{H:Hp}{h:Heap}{a:Addr}
theorem WX{u:HO}(ok:HOk P w H h)(e:Rd H a u):ObjOk P w H h a u:=e.ok ok
theorem Yj{kvs:List (Key×V)}(ok:HOk P w H h)(e:Rd H a (.dK kvs)):kvs.length<=sizeLine/\(a==sysModules)=false/\∃vs,KV kvs vs/\h.DictOf (mixKind P w) a vs:=
 show ObjOk P w H h a (.dK kvs)from WX ok e
theorem K6{kvs:List (Key×V)}(ok:HOk P w H h)(e:H a=some (.dK kvs)):kvs.length<=sizeLine/\(a==sysModules)=false/\∃vs,KV kvs vs/\h.DictOf (mixKind P w) a vs:=Yj ok (.inl e)
theorem ZC{ks:List Key}(ok:HOk P w H h)(e:H a=some (.tup (ks.map kV))):(tupleKind (mixKind P w)).is h ks a:=by
 obtain⟨_,its,r,o,h1,h2,n,h3⟩:=(show ObjOk P w H h a (.tup (ks.map kV))from ok a _ e)
 exact⟨o,its.toArray,n,h1,h2,h3,by simpa using yp r⟩
theorem kF{kvs:List (List Key×V)}(ok:HOk P w H h)(e:Rd H a (.dT kvs)):kvs.length<=sizeLine/\(a==sysModules)=false/\
  ∃xs,KT H kvs xs/\h.DictOfH (tupleKind (mixKind P w)) a xs:=by
 obtain⟨z,y,xs,r,o,es,ep,h1,h2,h3,h4,h5⟩:=(show ObjOk P w H h a (.dT kvs)from WX ok e)
 refine⟨z,y,xs,r,o,es,ep,h1,h2,h3,h4,fun x hx=>?_,h5⟩;have all:∀{l:List (List Key×V)} {m:List (List Key×Addr×Value)},KT H l m->∀x∈m,(tupleKind (mixKind P w)).is h x.1 x.2.1:=by
  intro l m q
  induction q with
  | nil=>intro x hx;exact nomatch hx
  | @cons p q ps qs hq t ih=>
   intro x hx;rcases mem_cons.mp hx with e | hx
   ·subst e;exact ZC ok (by rw[<-hq.1];exact hq.2.1)
   ·exact ih x hx
 exact all r x hx
theorem xI{kvs:List (List Key×V)}(ok:HOk P w H h)(e:H a=some (.dT kvs)):kvs.length<=sizeLine/\(a==sysModules)=false/\
  ∃xs,KT H kvs xs/\h.DictOfH (tupleKind (mixKind P w)) a xs:=kF ok (.inl e)
end
def DGet(H:Hp)(a:Addr)(y:V)(r:Option V):Prop:=
 (∃kvs k,Rd H a (.dK kvs)/\y=kV k/\r=valV kvs k)\/∃kvs k b,Rd H a (.dT kvs)/\y = .ref b/\H b=some (.tup (k.map kV))/\r=valV kvs k
def DPut(H:Hp)(a:Addr)(y v:V)(H':Hp):Prop:=
 (∃kvs k,H a=some (.dK kvs)/\y=kV k/\kvs.length<sizeLine/\H'=upd H a (.dK (putK kvs k v)))\/
 ∃kvs k b,H a=some (.dT kvs)/\y = .ref b/\H b=some (.tup (k.map kV))/\kvs.length<sizeLine/\H'=upd H a (.dT (putK kvs k v))
theorem DGet.k{H:Hp}{a:Addr}{kvs:List (Key×V)}{k:Key}(e:H a=some (.dK kvs)):DGet H a (kV k) (valV kvs k):=.inl ⟨kvs,k,.inl e,rfl,rfl⟩
theorem DPut.k{H:Hp}{a:Addr}{kvs:List (Key×V)}{k:Key}{v:V}(e:H a=some (.dK kvs))(hl:kvs.length<sizeLine):DPut H a (kV k) v (upd H a (.dK (putK kvs k v))):=.inl ⟨kvs,k,e,rfl,hl,rfl⟩
section
variable{X:Cx}{pins:List (Addr×Obj)}{σ:St}{H:Hp}{s:Shared}{a:Addr}{y v:V}{u r:Value}{o:Option V}{A:Around}{E:Value->Shared->Prop}
theorem Inv.big(I:Inv X pins σ H s):sysModules<s.heap.objs.size:=by
 have h:mainGlobals<s.heap.objs.size:=(I.mod.glob.keeps I.bk).lt;exact Nat.lt_trans (by decide) h
theorem ym{Q:Value->Shared->Prop}(hu:A.units+1<cLine)(I:Inv X pins σ H s)(g:DGet H a y (some v))(ry:RelV y u)(h:∀w' s',Inv X pins σ H s'->RelV v w'->Q w' s') :
  wpAny (model X.prog X.w) A (getItem (.ref a) u) Q E s:=by
 rcases g with⟨kvs,k,e,ey,l⟩ | ⟨kvs,k,b,e,ey,eb,l⟩
 ·subst ey;obtain⟨z,hd,vs,rel,dd⟩:=Yj I.hok e;obtain⟨w',hw,rw'⟩:=RelO.some_of (v:=v) (o:=valueAt vs k) (by rw[l];exact rel.val k);exact wpAny_getItem_of (yq ry) dd.mapOf hw (h w' _ (I.tok _) rw')
 ·subst ey;cases(show u=Value.ref b from ry);obtain⟨z,hd,xs,rel,dd⟩:=kF I.hok e;obtain⟨w',hw,rw'⟩:=RelO.some_of (v:=v) (o:=(atKey xs k).map (·.2)) (by rw[l];exact rel.val k);obtain⟨p,hp,hp2⟩:=Option.map_eq_some_iff.mp hw;refine wpAny_getItem_heap (tupleKind_room_in1 hu) (ZC I.hok eb) dd hp ?_;rw[hp2];exact h w' _ (I.tok _) rw'
theorem xS{Q:Value->Shared->Prop}(hu:A.units+1<cLine)(I:Inv X pins σ H s)(g:DGet H a y o)(ry:RelV y u)(h:∀s',Inv X pins σ H s'->Q (.bool o.isSome) s') :
  wpAny (model X.prog X.w) A (compareOp .In u (.ref a)) Q E s:=by
 rcases g with⟨kvs,k,e,ey,l⟩ | ⟨kvs,k,b,e,ey,eb,l⟩
 ·subst ey;obtain⟨z,hd,vs,rel,dd⟩:=Yj I.hok e;refine wpAny_in_of (yq ry) hd dd.mapOf ?_;rw[<-(rel.val k).isSome_eq,<-l];exact h _ (I.tok _)
 ·subst ey;cases(show u=Value.ref b from ry);obtain⟨z,hd,xs,rel,dd⟩:=kF I.hok e;refine wpAny_in_heap (tupleKind_room_in1 hu) (ZC I.hok eb) hd dd ?_;have q:=(rel.val k).isSome_eq;rw[Option.isSome_map]at q;rw[<-q,<-l];exact h _ (I.tok _)
theorem Zl{h':Heap}{t':Nat}{ob:HO}(I:Inv X pins σ H s)(mu:Mut (H a))(hs:Heap.SameBut a s.heap h')(he:∃q,h'.get? a=some q)(new:ObjOk X.prog X.w (upd H a ob) h' a ob) :
  Inv X pins σ (upd H a ob) {s with heap:=h',toks:=t'}:=
 I.write (x:=a) (e:=a) mu (.inl rfl) (fun b q hb z=>(hs.2 b hb).trans z) he new
theorem K5{P:Program}{w:World}{H':Hp}{h':Heap}{kvs:List (Key×V)}{vs:List (Key×Value)}(z:kvs.length<=sizeLine)(hd:(a==sysModules)=false)(rel:KV kvs vs)(dd:h'.DictOf (mixKind P w) a vs) :
  ObjOk P w H' h' a (.dK kvs):=⟨z,hd,vs,rel,dd⟩
theorem Kl{H':Hp}{Q:Unit->Shared->Prop}(hu:A.units+1<cLine)(I:Inv X pins σ H s)(g:DPut H a y v H')(ry:RelV y u)(rv:RelV v r)(h:∀s',Inv X pins σ H' s'->Q () s') :
  wpAny (model X.prog X.w) A (setItem (.ref a) u r) Q E s:=by
 rcases g with⟨kvs,k,e,ey,l,eH⟩ | ⟨kvs,k,b,e,ey,eb,l,eH⟩
 ·subst ey eH;obtain⟨z,hd,vs,rel,dd⟩:=K6 I.hok e;have hz:vs.length<=sizeLine:=by rw[<-rel.length];exact z
  have hl:(putK kvs k v).length<=sizeLine:=by have:=QS kvs k v;omega
  refine wpAny_setItem_pairs (hsz:=hz) (yq ry) dd fun h' dd' hs=>h _ ?_
  have he:∃q,h'.get? a=some q:=let ⟨q,_,_,hq,_⟩:=dd';⟨q,hq⟩;exact Zl I (by rw[e];exact True.intro) hs he (K5 hl hd (rel.put k rv) dd')
 ·subst ey eH;cases(show u=Value.ref b from ry);obtain⟨z,hd,xs,rel,dd⟩:=xI I.hok e;have hz:xs.length<=sizeLine:=by rw[<-Paired.length rel];exact z
  have hl:(putK kvs k v).length<=sizeLine:=by have:=QS kvs k v;omega
  refine wpAny_setItem_heap (hsz:=hz) (tupleKind_room_in1 hu) (ZC I.hok eb) dd fun h' dd' hs=>h _ ?_
  obtain⟨q,es,ep,hq,h2,h3,h4,_,h5⟩:=dd';refine Zl I (by rw[e];exact True.intro) hs ⟨q,hq⟩ ⟨hl,hd,_,(rel.put k eb rv).keeps fun c ys ec=>?_,q,es,ep,hq,h2,h3,h4,h5⟩;rw[jk (qk ec e (fun z=>nomatch z))];exact ec
end
section
variable{X:Cx}{pins:List (Addr×Obj)}{σ:St}{H:Hp}{s:Shared}{a:Addr}{kvs:List (Key×V)}{k:Key}{u:Value}{A:Around}{E:Value->Shared->Prop}
theorem xH{Q:Value->Shared->Prop}(I:Inv X pins σ H s)(e:Rd H a (.dK kvs))(h:∀t s',Inv X pins σ H s'->Q (.int kvs.length t) s'):wpAny (model X.prog X.w) A (call (.builtin "len") [.ref a]) Q E s:=by
 obtain⟨z,hd,vs,rel,dd⟩:=Yj I.hok e;refine call_len_dict hd dd (by rw[<-rel.length];rw[sizeLine_eq]at z;omega) ?_;rw[<-rel.length];exact h _ _ (I.tok _)
end
def NoSl(i:Expr):Prop:=∀ov iv,subscripted i false ov iv=operate [ov,iv] (getItem ov iv)
theorem WI{prog:Program}{w:World}{A:Around}{E:Value->Shared->Prop}{s:Shared}{env:Env}{value slice:Expr}{pos:Pos}{T id:String}{Q:Value->Shared->Prop}
  (hl:typeLookup (.type T) "__getitem__"= pure (some (.builtin id))) (hs:NoSl slice)
  (h:wpAny (model prog w) A (eval value env) (fun o s₁=>wpAny (model prog w) A (eval slice env) (fun i s₂=>s₂.TypeIs o T/\wpAny (model prog w) A (getItem o i) Q E s₂) E s₁) E s) :
  wpAny (model prog w) A (eval (.Subscript value slice pos) env) Q E s:=by
 refine Subscript_ (wpAny_mono h (fun o s₁ h₁=>wpAny_mono h₁ (fun i s₂ h₂=>?_) fun _ _ x=>x) fun _ _ x=>x);obtain⟨hT,h₂⟩:=h₂;unfold subscriptTail;refine wpAny_bind ?_;rw[getitemInPython_of_ne hT.not_modules];refine wpAny_bind (wpAny_specialOf hT hl ?_);have fin:wpAny (model prog w) A (subscripted slice false o i) (fun r s₃=>wpAny (model prog w) A (letTemporaryGo value o r >>= fun _=>pure r) Q E s₃) E s₂:=by
  rw[hs o i];exact wpAny_operating (wpAny_mono h₂ (fun r s₃ h₃=>wpAny_bind (wpAny_letTemporaryGo (wpAny_pure h₃))) fun _ _ x=>x)
 first
  | exact wpAny_pure (wpAny_bind fin)
  | exact wpAny_bind (wpAny_pure (wpAny_bind fin))
  | exact wpAny_bind fin
theorem Zb{X:Cx}{pins:List (Addr×Obj)}{σ:St}{H:Hp}{s:Shared}{a:Addr}{y:V}{o:Option V}(I:Inv X pins σ H s)(g:DGet H a y o):s.TypeIs (.ref a) "dict":=by
 rcases g with⟨kvs,k,e,_,_⟩ | ⟨kvs,k,b,e,_,_,_⟩
 ·obtain⟨_,_,vs,_,dd⟩:=Yj I.hok e;exact dd.typeIs
 ·obtain⟨_,_,xs,_,dd⟩:=kF I.hok e;exact dd.typeIs
def tDGet(td ty:TE):TE:=fun σ H Q=>td σ H fun x H1=>ty σ H1 fun y H2=>∃a v,x = .ref a/\DGet H2 a y (some v)/\Q v H2
def tDIn(ty td:TE):TE:=fun σ H Q=>ty σ H fun y H1=>td σ H1 fun x H2=>∃a o,x = .ref a/\DGet H2 a y o/\Q (.bl o.isSome) H2
def sDPut(td ty tv:TE):TS:=fun D σ H=>tv σ H fun v H1=>td σ H1 fun x H2=>ty σ H2 fun y H3=>∃a H4,x = .ref a/\DPut H3 a y v H4/\D.nx σ H4
section
variable{X:Cx}{o i e value:Expr}{pos pos' tpos:Pos}{td ty tv:TE}
theorem jw(hu:X.A.units+1<cLine)(ho:PE X o td)(hi:PE X i ty)(hs:NoSl i:=by exact fun _ _=>rfl):PE X (.Subscript o i pos) (tDGet td ty):=by
 intro pins s σ H Q I h;refine WI PySem.F.slot_dict_getitem.lookup hs (thn (ho pins s σ H _ I h) fun u s1 ⟨x,H1,I1,rx,q1⟩=>thn (hi pins s1 σ H1 _ I1 q1) fun iv s2 ⟨y,H2,I2,ry,a,v,ex,g,q2⟩=>?_);subst ex;obtain rfl:u=Value.ref a:=rx;exact⟨Zb I2 g,ym hu I2 g ry fun w' s3 I3 rw'=>⟨v,H2,I3,rw',q2⟩⟩
theorem xw(hu:X.A.units+1<cLine)(hi:PE X i ty)(ho:PE X o td):PC X .In i o (tDIn ty td):=by
 intro pins s σ H Q I h;refine thn (hi pins s σ H _ I h) fun iv s1 ⟨y,H1,I1,ry,q1⟩=>thn (ho pins s1 σ H1 _ I1 q1) fun u s2 ⟨x,H2,I2,rx,a,ov,ex,g,q2⟩=>?_
 subst ex;obtain rfl:u=Value.ref a:=rx;exact xS hu I2 g ry fun s3 I3=>⟨.bl ov.isSome,H2,I3,rfl,q2⟩
theorem zH(hu:X.A.units+1<cLine)(ho:PE X o td)(hi:PE X i ty)(hv:PE X value tv)(hs:swapsWith value (some (.Subscript o i pos')) pos.line X.env=pure false) :
  PS X (.Assign [.Subscript o i pos'] value pos) (sDPut td ty tv):=by
 intro pins s σ H D I h;refine wpAny_Assign_Subscript (thn (hv pins s σ H _ I h) fun r s1 ⟨v,H1,I1,rv,q1⟩=>thn (ho pins s1 σ H1 _ I1 q1) fun u s2 ⟨x,H2,I2,rx,q2⟩=>thn (hi pins s2 σ H2 _ I2 q2) fun iv s3 ⟨y,H3,I3,ry,a,H4,ex,g,q3⟩=>?_) hs;subst ex;obtain rfl:u=Value.ref a:=rx;exact Kl hu I3 g ry rv fun s4 I4=>⟨σ,H4,I4,q3⟩
end
theorem Yi{P:Program}{w:World}{H:Hp}(h:Heap)(hb:sysModules<h.objs.size):ObjOk P w H (h.push {cls:=.type "dict",data:=.dict #[]}) h.objs.size (.dK []):=
 ⟨Nat.zero_le _,beq_eq_false_iff_ne.mpr (Ne.symm (Nat.ne_of_lt hb)),[],.nil,Heap.DictOf.new h⟩
def tDNewK:TE:=fun _ H Q=>∀p,H p=none->Q (.ref p) (upd H p (.dK []))
section
variable{X:Cx}{pos:Pos}
theorem zF:PE X (.Dict [] [] pos) tDNewK:=fun pins s σ H Q I h=>
 wpAny_Dict_empty ⟨.ref s.heap.objs.size,_,I.laid (a:=s.heap.objs.size) (o:=.dK []) (t':=s.toks) (fun _ _ q=>Heap.get?_push_of_some _ q) (Nat.le_refl _) (Yi s.heap I.big),rfl,h _ (I.hok.fresh (Nat.le_refl _))⟩
end
noncomputable def tPairs:List (TE×TE)->St->Hp->(List (V×V)->Hp->Prop)->Prop
 | [],_,H,Q=>Q [] H
 | (tk,tv)::r,σ,H,Q=>tk σ H fun x H1=>tv σ H1 fun y H2=>tPairs r σ H2 fun ps H3=>Q ((x,y)::ps) H3
noncomputable abbrev VV:List (V×V)->List (Value×Value)->Prop:=Paired fun p q=>RelV p.1 q.1/\RelV p.2 q.2
def PPs(X:Cx)(pos:Pos)(keys:List (Option Expr))(values:List Expr)(trs:List (TE×TE)):Prop:=
 ∀(pins:List (Addr×Obj)) (s:Shared) (σ:St) (H:Hp) (Q:List (V×V)->Hp->Prop),Inv X pins σ H s->tPairs trs σ H Q->
  wpAny (model X.prog X.w) X.A (evalPairs (pairTrees keys values X.env pos)) (fun vs s'=>∃ps H',Inv X pins σ H' s'/\VV ps vs/\Q ps H') X.xe s
theorem kW{X:Cx}{pos:Pos}:PPs X pos [] [] []:=fun pins s σ H Q I h=>pairTrees_nil_walk ⟨[],H,I,.nil,h⟩
theorem Qv{X:Cx}{pos:Pos}{k v:Expr}{ks:List (Option Expr)}{vs:List Expr}{tk tv:TE}{trs:List (TE×TE)}(hk:PE X k tk)(hv:PE X v tv)(hr:PPs X pos ks vs trs) :
  PPs X pos (some k::ks) (v::vs) ((tk,tv)::trs):=fun pins s σ H Q I h=>
 pairTrees_cons_walk (thn (hk pins s σ H _ I h) fun u s1 ⟨x,H1,I1,rx,q1⟩=>thn (hv pins s1 σ H1 _ I1 q1) fun w2 s2 ⟨y,H2,I2,ry,q2⟩=>
  thn (hr pins s2 σ H2 _ I2 q2) fun ws s3 ⟨ps,H3,I3,rel,q3⟩=>⟨(x,y)::ps,H3,I3,.cons ⟨rx,ry⟩ rel,q3⟩)
noncomputable def mergeK(kvs more:List (Key×V)):List (Key×V):=more.foldl (fun acc kv=>putK acc kv.1 kv.2) kvs
theorem KV.merge:∀{more:List (Key×V)} {rs:List (Key×Value)} {kvs:List (Key×V)} {vs:List (Key×Value)},KV more rs->KV kvs vs->KV (mergeK kvs more) (merged vs rs):=by
 intro more rs kvs vs r;unfold KV at r
 induction r generalizing kvs vs with
 | nil=>intro q;exact q
 | @cons p q ps qs h t ih=>
  intro r0;have e:KV (putK kvs p.1 p.2) (stored vs q.1 q.2):=by
   have:=r0.put p.1 h.2;rw[<-h.1];exact this
  exact ih e
theorem Q9:∀(more kvs:List (Key×V)),(mergeK kvs more).length<=kvs.length+more.length
 | [],kvs=>by show kvs.length<=kvs.length+0;omega
 | p::r,kvs=>by
  have h1:=Q9 r (putK kvs p.1 p.2);have h2:=QS kvs p.1 p.2;show(mergeK (putK kvs p.1 p.2) r).length<=_;rw[length_cons];omega
theorem Zv{P:Program}{w:World}:∀{kvs:List (Key×V)} {ws:List (Value×Value)},VV (kvs.map fun kv=>(kV kv.1,kv.2)) ws->∃rs,Carries (mixKind P w) ws rs/\KV kvs rs
 | [],_,r=>by rw[map_nil]at r;cases r;exact⟨[],True.intro,.nil⟩
 | p::kvs,_,r=>by
  rw[map_cons]at r;cases r with
  | @cons a b as bs h t=>
   obtain⟨rs,c,q⟩:=Zv (P:=P) (w:=w) t;obtain⟨b1,b2⟩:=b;exact⟨(p.1,b2)::rs,⟨yq h.1,rfl,c⟩,.cons ⟨rfl,h.2⟩ q⟩
def tDisp(trs:List (TE×TE)):TE:=fun σ H Q=>∀p,H p=none->tPairs trs σ (upd H p (.dK [])) fun ps H2=>H2 p=some (.dK [])/\∃kvs:List (Key×V),ps=kvs.map (fun kv=>(kV kv.1,kv.2))/\kvs.length<=15/\Q (.ref p) (upd H2 p (.dK (mergeK [] kvs)))
theorem kR{X:Cx}{pos:Pos}{keys:List (Option Expr)}{values:List Expr}{trs:List (TE×TE)}(h:PPs X pos keys values trs)(hall:keys.all (·.isSome)=true)(hl:keys.length=values.length)(h0:keys≠[])
  (h15:keys.length<=15):PE X (.Dict keys values pos) (tDisp trs):=by
 intro pins s σ H Q I q;have hn:=I.hok.fresh (Nat.le_refl s.heap.objs.size);have I1:=I.laid (a:=s.heap.objs.size) (o:=.dK []) (h':=s.heap.push {cls:=.type "dict",data:=.dict #[]}) (t':=s.toks) (fun _ _ q=>Heap.get?_push_of_some _ q) (Nat.le_refl _) (Yi s.heap I.big);refine wpAny_Dict_walk (knd:=mixKind X.prog X.w) hall hl h0 h15 (thn (h pins _ σ _ _ I1 (q _ hn)) fun ws s2 ⟨ps,H2,I2,rel,e,kvs,ep,lk,q2⟩=>?_);subst ep;obtain⟨rs,c,rk⟩:=Zv (P:=X.prog) (w:=X.w) rel;obtain⟨z,hd,vs0,r0,dd⟩:=K6 I2.hok e;cases r0;refine⟨rs,c,dd,fun h' dd' hs=>⟨.ref s.heap.objs.size,_,?_,rfl,q2⟩⟩;have hz:(mergeK [] kvs).length<=sizeLine:=by
  have h1:=Q9 kvs [];rw[length_nil]at h1;rw[sizeLine_eq];omega
 have he:∃q,h'.get? s.heap.objs.size=some q:=let ⟨q,_,_,hq,_⟩:=dd';⟨q,hq⟩;exact Zl I2 (by rw[e];exact True.intro) hs he (K5 hz hd (rk.merge .nil) dd')
section
variable{X:Cx}{pins:List (Addr×Obj)}{σ:St}{H:Hp}{s:Shared}{a:Addr}{y d:V}{u r:Value}{o:Option V}{A:Around}{E:Value->Shared->Prop}
end
section
variable{X:Cx}{o e f:Expr}{apos cpos:Pos}{td ty tx:TE}
end
section
variable{X:Cx}{pins:List (Addr×Obj)}{σ:St}{H:Hp}{s:Shared}{a:Addr}{kvs:List (Key×V)}{A:Around}{E:Value->Shared->Prop}
end
section
variable{X:Cx}{pins:List (Addr×Obj)}{σ:St}{H:Hp}{s:Shared}{a:Addr}{y:V}{u:Value}{A:Around}{E:Value->Shared->Prop}
end
section
variable{X:Cx}
theorem yf:CallR X (.builtin "len") (fun xs H Q=>∃a kvs,xs=[V.ref a]/\H a=some (.dK kvs)/\Q (.int kvs.length) H):=by
 intro pins s σ H xs us Q I r h;obtain⟨a,kvs,rfl,ha,q⟩:=h;obtain⟨u,rfl,ru⟩:=vals1 r;cases ru;exact xH I (.inl ha) fun t s' I'=>⟨.int kvs.length,H,I',⟨t,rfl⟩,q⟩
end
section
variable{κ:Type}[DecidableEq κ]
theorem wQ{kvs:List (κ×V)}{k:κ}(h:valV kvs k=none):¬k∈kvs.map (·.1):=by
 intro m;obtain⟨p,hp,e⟩:=mem_map.mp m;have q:(kvs.any fun kv=>decide (kv.1=k))=true:=List.any_eq_true.mpr ⟨p,hp,decide_eq_true e⟩;rw[QY,h]at q;exact absurd q (by simp)
theorem WL{kvs:List (κ×V)}{k:κ}{v:V}(h:valV kvs k=some v):k∈kvs.map (·.1):=by
 have q:(kvs.any fun kv=>decide (kv.1=k))=true:=by
  rw[QY,h]
  all_goals rfl
 obtain⟨p,hp,e⟩:=List.any_eq_true.mp q;exact mem_map.mpr ⟨p,hp,of_decide_eq_true e⟩
end
theorem compLoopT{prog:Program}{w:World}{A:Around}{R:Result->Shared->Prop}{s:Shared}{elt target iter:Expr}{ifs:List Expr}{scope:Scope}{pos:Pos}{it acc:Value}{env:Env}(I:Nat->Shared->Prop)
  (turn:∀n s,I n s->wpAny (model prog w) A (pyNext it) (fun r s₁=>match r with
   | none=>R (.ok .next) s₁
   | some v=>wpAny (model prog w) A (letOwnedTupleGo target it v) (fun _ s₂=>wpAny (model prog w) A (assign target env v) (fun _ s₃=>
     wpAny (model prog w) A (forIn ifs true fun c r=>if r=true then do let ok <-isTrue c env (eval c env);pure (ForInStep.yield ok)else pure (ForInStep.yield r)) (fun ok s₄=>
      if ok=true then wpAny (model prog w) A (eval elt env) (fun x s₅=>
       wpAny (model prog w) A (call (.builtin "list.append") [acc,x]) (fun _ s₆=>∃m,m<n/\I m s₆) (fun _ _=>False) s₅) (fun _ _=>False) s₄
      else∃m,m<n/\I m s₄) (fun _ _=>False) s₃) (fun _ _=>False) s₂) (fun _ _=>False) s₁) (fun _ _=>False) s)
  (n:Nat) (h:I n s) :
  codeAny (model prog w) A (.compLoop (.ListComp elt [⟨target,iter,ifs,0⟩] scope pos) 0 it acc env) R s:=by
 refine codeAny_loop rfl I (fun n s hI=>?_) n h;show wpAny _ A ((compTurn (.ListComp elt [⟨target,iter,ifs,0⟩] scope pos) 0 it acc env).onRaise (fun x=>do noteFrame x env;theTreesLotGoes x)) _ _ s;refine wpAny_noted ?_;rw[compTurn_list];refine wpAny_bind (wpAny_standAt (wpAny_bind (wpAny_mono (turn n s hI) (fun r s₁ h₁=>?_) fun _ _ h'=>h'.elim)));cases r with
 | none=>exact wpAny_pure h₁
 | some v=>
  refine wpAny_bind (wpAny_mono h₁ (fun _ s₂ h₂=>?_) fun _ _ h'=>h'.elim);refine wpAny_bind (wpAny_mono h₂ (fun _ s₃ h₃=>wpAny_bind (wpAny_mono h₃ (fun ok s₄ h₄=>?_) fun _ _ h'=>h'.elim)) fun _ _ h'=>h'.elim);cases ok with
  | false=>exact wpAny_pure ⟨rfl,h₄⟩
  | true=>
   exact wpAny_bind (wpAny_bind (wpAny_mono h₄ (fun x s₅ h₅=>wpAny_bind (wpAny_mono h₅ (fun _ s₆ h₆=>wpAny_pure (wpAny_pure ⟨rfl,h₆⟩)) fun _ _ h'=>h'.elim)) fun _ _ h'=>h'.elim))
def PF(X:Cx)(ifs:List Expr)(t:TT):Prop:=
 ∀(pins:List (Addr×Obj)) (s:Shared) (σ:St) (H:Hp) (Q:Bool->Hp->Prop),Inv X pins σ H s->t σ H Q->
  wpAny (model X.prog X.w) X.A (forIn ifs true fun c r=>if r=true then do let ok <-isTrue c X.env (eval c X.env);pure (ForInStep.yield ok)else pure (ForInStep.yield r)) (TP X pins σ Q) X.xe s
def tYes:TT:=fun _ H Q=>Q true H
theorem QV{X:Cx}:PF X [] tYes:=fun _ _ _ H _ I h=>wpAny_tests_nil ⟨H,I,h⟩
theorem ZO{X:Cx}{c:Expr}{t:TT}(hc:PT X c t):PF X [c] t:=fun pins s σ H Q I h=>wpAny_tests_one (hc pins s σ H Q I h)
noncomputable def closL(env:Env):List (Str×NameKind)->List (Str×Addr)->List (Str×Addr)
 | [],acc=>acc
 | (n,k)::r,acc=>closL env r (if k == .free then(n,(env.cells.lookup n).getD 0)::acc else acc)
theorem zx{scope:Scope}{env:Env}(h:∀y∈scope.names,y.2 = .free->∃c,env.cells.lookup y.1=some c):closureFor scope env=pure (closL env scope.names []):=by
 have go:∀(names:List (Str×NameKind)) (acc:List (Str×Addr)),(∀y∈names,y.2 = .free->∃c,env.cells.lookup y.1=some c)->
   (forIn (m:=Sem) names acc fun x r=>(match x with | (name,kind)=>if(kind == .free)=true then do let a <-cellOf env name;pure (ForInStep.yield ((name,a)::r))else pure (ForInStep.yield r)))=pure (closL env names acc):=by
  intro names
  induction names with
  | nil=>intro acc _;rfl
  | cons y r ih=>
   obtain⟨n,k⟩:=y;intro acc hh;rw[List.forIn_cons];cases hk:(k==NameKind.free)with
   | true=>
    have hk':k = .free:=by simpa using hk
    obtain⟨c,hc⟩:=hh (n,k) mem_cons_self hk';have ec:cellOf env n=pure c:=by unfold cellOf;rw[hc]
    simp only[hk,if_true,ec,pure_bind,closL,hc,Option.getD_some];exact ih _ fun y hy=>hh y (mem_cons_of_mem _ hy)
   | false=>
    simp only[hk,Bool.false_eq_true,if_false,pure_bind,closL];exact ih _ fun y hy=>hh y (mem_cons_of_mem _ hy)
 have g:=go scope.names [] h;unfold closureFor;simp only[g,pure_bind]
theorem yj{env:Env}:∀(names:List (Str×NameKind)) (acc:List (Str×Addr)),(∀y∈names,y.2 = .free->∃c,env.cells.lookup y.1=some c)->(∀x c,acc.lookup x=some c->env.cells.lookup x=some c)->
  ∀x c,(closL env names acc).lookup x=some c->env.cells.lookup x=some c
 | [],_,_,ha,x,c,h=>ha x c h
 | (n,k)::r,acc,hh,ha,x,c,h=>by
  refine yj r _ (fun y hy=>hh y (mem_cons_of_mem _ hy)) (fun x c e=>?_) x c h;cases hk:(k==NameKind.free)with
  | false=>rw[hk]at e;exact ha x c e
  | true=>
   rw[hk]at e;have hk':k = .free:=by simpa using hk
   obtain⟨c',hc⟩:=hh (n,k) mem_cons_self hk';simp only[if_true,hc,Option.getD_some]at e;rw[lookup_cons]at e;cases hx:(x==n)with
   | true=>
    rw[hx]at e;have:x=n:=by simpa using hx
    rw[this,hc];exact e
   | false=>rw[hx]at e;exact ha x c e
theorem yh{env:Env}:∀(names:List (Str×NameKind)) (acc:List (Str×Addr)) (x:Str),(∃c,acc.lookup x=some c)->∃c,(closL env names acc).lookup x=some c
 | [],_,_,h=>h
 | (n,k)::r,acc,x,h=>by
  refine yh r _ x ?_;cases hk:(k==NameKind.free)with
  | false=>exact h
  | true=>
   simp only[if_true];rw[lookup_cons];cases hx:(x==n)with
   | true=>exact⟨_,rfl⟩
   | false=>exact h
theorem zN{env:Env}:∀(names:List (Str×NameKind)) (acc:List (Str×Addr)) (x:Str),(x,NameKind.free)∈names->∃c,(closL env names acc).lookup x=some c
 | [],_,_,h=>by simp at h
 | (n,k)::r,acc,x,h=>by
  rcases mem_cons.mp h with e | h
  ·cases e;refine yh r _ _ ?_;simp
  ·exact zN r _ x h
theorem qZ{env:Env}:∀{names:List (Str×NameKind)} {x:Str} {k:NameKind},(names.map fun(n,k)=>if(k==NameKind.free&&env.scope.kind == .function&&env.kindOf n==some .cell)then(n,NameKind.cell)else(n,k)).lookup x=some k->
  ∃k',(x,k')∈names/\names.lookup x=some k'/\(k'=k\/(k' = .free/\k = .cell))
 | [],_,_,h=>by simp at h
 | (n,k₀)::r,x,k,h=>by
  have ih:=@qZ env r x k;rw[map_cons]at h;dsimp only at h;cases hx:x==n with
  | true=>
   have e:x=n:=by simpa using hx
   subst e;refine⟨k₀,mem_cons_self,by simp,?_⟩;by_cases hc:(k₀==NameKind.free&&env.scope.kind == .function&&env.kindOf x==some .cell)=true
   ·rw[if_pos hc]at h;simp only[lookup_cons,beq_self_eq_true]at h;simp only[Bool.and_eq_true,beq_iff_eq]at hc;exact .inr ⟨hc.1.1,(Option.some.inj h).symm⟩
   ·rw[if_neg hc]at h;simp only[lookup_cons,beq_self_eq_true]at h;exact .inl (Option.some.inj h)
  | false=>
   have h':(r.map fun(n,k)=>if(k==NameKind.free&&env.scope.kind == .function&&env.kindOf n==some .cell)then(n,NameKind.cell)else(n,k)).lookup x=some k:=by
    by_cases hc:(k₀==NameKind.free&&env.scope.kind == .function&&env.kindOf n==some .cell)=true
    ·rw[if_pos hc]at h;simpa only[lookup_cons,hx]using h
    ·rw[if_neg hc]at h;simpa only[lookup_cons,hx]using h
   obtain⟨k',h1,h2,h3⟩:=ih h';exact⟨k',mem_cons_of_mem _ h1,by simpa only[lookup_cons,hx]using h2,h3⟩
theorem zM:∀(names:List (Str×NameKind)) (n:Nat) (acc:List (Str×Addr)) (x:Str) (c:Addr),(cellsFrom n names acc).lookup x=some c->n<=c\/acc.lookup x=some c
 | [],_,_,_,_,h=>.inr h
 | (y,k)::r,n,acc,x,c,h=>by
  unfold cellsFrom at h;split at h
  ·rcases zM r (n+1) _ x c h with q | q
   ·exact .inl (by omega)
   ·rw[lookup_cons]at q;cases hx:x==y with
    | true=>rw[hx]at q;cases q;exact .inl (Nat.le_refl _)
    | false=>rw[hx]at q;exact .inr q
  ·exact zM r n acc x c h
theorem Y3:∀(names:List (Str×NameKind)) (n:Nat) (acc:List (Str×Addr)),(∀x c,acc.lookup x=some c->c<n)->(∀x y c,acc.lookup x=some c->acc.lookup y=some c->x=y)->
  ∀x y c,(cellsFrom n names acc).lookup x=some c->(cellsFrom n names acc).lookup y=some c->x=y
 | [],_,_,_,hi,x,y,c,h1,h2=>hi x y c h1 h2
 | (z,k)::r,n,acc,hb,hi,x,y,c,h1,h2=>by
  unfold cellsFrom at h1 h2;split at h1
  ·rename_i hk;rw[if_pos hk]at h2;refine Y3 r (n+1) _ (fun x c e=>?_) (fun x y c e1 e2=>?_) x y c h1 h2
   ·rw[lookup_cons]at e;cases hx:x==z with
    | true=>rw[hx]at e;cases e;exact Nat.lt_succ_self _
    | false=>rw[hx]at e;exact Nat.lt_succ_of_lt (hb x c e)
   ·rw[lookup_cons]at e1 e2;cases hx:x==z with
    | true=>
     rw[hx]at e1;cases e1;cases hy:y==z with
     | true=>rw[beq_iff_eq.mp hx,beq_iff_eq.mp hy]
     | false=>rw[hy]at e2;exact absurd (hb y n e2) (Nat.lt_irrefl _)
    | false=>
     rw[hx]at e1;cases hy:y==z with
     | true=>rw[hy]at e2;cases e2;exact absurd (hb x n e1) (Nat.lt_irrefl _)
     | false=>rw[hy]at e2;exact hi x y c e1 e2
  ·rename_i hk;rw[if_neg hk]at h2;exact Y3 r n acc hb hi x y c h1 h2
theorem yJ:∀(names:List (Str×NameKind)) (n:Nat) (acc:List (Str×Addr)) (x:Str),(∃c,acc.lookup x=some c)->∃c,(cellsFrom n names acc).lookup x=some c
 | [],_,_,_,h=>h
 | (y,k)::r,n,acc,x,h=>by
  unfold cellsFrom;split
  ·refine yJ r (n+1) _ x ?_;rw[lookup_cons];cases hx:x==y with
   | true=>exact⟨_,rfl⟩
   | false=>exact h
  ·exact yJ r n acc x h
theorem Y2:∀(names:List (Str×NameKind)) (n:Nat) (acc:List (Str×Addr)) (x:Str),(x,NameKind.cell)∈names->∃c,(cellsFrom n names acc).lookup x=some c
 | [],_,_,_,h=>by simp at h
 | (y,k)::r,n,acc,x,h=>by
  unfold cellsFrom;rcases mem_cons.mp h with e | h
  ·cases e;simp only[beq_self_eq_true,if_true];exact yJ r _ _ _ (by simp)
  ·split
   ·exact Y2 r _ _ x h
   ·exact Y2 r _ _ x h
theorem Y5:∀(names:List (Str×NameKind)) (n:Nat) (acc:List (Str×Addr)) (x:Str),(x,NameKind.cell)∉names->(cellsFrom n names acc).lookup x=acc.lookup x
 | [],_,_,_,_=>rfl
 | (y,k)::r,n,acc,x,h=>by
  have hr:(x,NameKind.cell)∉r:=fun q=>h (mem_cons_of_mem _ q)
  unfold cellsFrom;split
  ·rename_i hk;rw[Y5 r _ _ x hr,lookup_cons];cases hx:x==y with
   | true=>rw[beq_iff_eq.mp hx,beq_iff_eq.mp hk]at h;exact absurd mem_cons_self h
   | false=>rfl
  ·exact Y5 r n acc x hr
theorem Y4:∀(names:List (Str×NameKind)) (n₀ n:Nat) (acc:List (Str×Addr)) (x:Str) (c:Addr),n₀<=n->((x,NameKind.cell)∈names\/∀c,acc.lookup x=some c->n₀<=c)->(cellsFrom n names acc).lookup x=some c->n₀<=c
 | [],_,_,_,_,c,_,h,e=>h.elim (fun z=>by simp at z) fun z=>z c e
 | (y,k)::r,n₀,n,acc,x,c,hn,h,e=>by
  unfold cellsFrom at e;split at e
  ·refine Y4 r n₀ (n+1) _ x c (by omega) ?_ e;rcases h with h | h
   ·rcases mem_cons.mp h with q | q
    ·cases q;exact .inr fun c q=>by rw[lookup_cons,beq_self_eq_true]at q;cases q;exact hn
    ·exact .inl q
   ·refine .inr fun c q=>?_
    rw[lookup_cons]at q;cases hx:x==y with
    | true=>rw[hx]at q;cases q;exact hn
    | false=>rw[hx]at q;exact h c q
  ·rename_i hk;refine Y4 r n₀ n acc x c hn ?_ e;rcases h with h | h
   ·rcases mem_cons.mp h with q | q
    ·cases q;exact absurd rfl hk
    ·exact .inl q
   ·exact .inr h
theorem Zw:∀(names:List (Str×NameKind)) (h:Heap) (acc:List (Str×Addr)) (x:Str) (c:Addr),(cellsFrom h.objs.size names acc).lookup x=some c->acc.lookup x=some c\/(pushCells h names).IsCell c none
 | [],_,_,_,_,e=>.inl e
 | (y,k)::r,h,acc,x,c,e=>by
  unfold cellsFrom at e;unfold pushCells;split
  ·rename_i hk;rw[if_pos hk]at e;rw[<-Heap.size_push h {cls:=.type "cell",data:=.cell none}]at e;rcases Zw r _ _ x c e with q | q
   ·rw[lookup_cons]at q;cases hx:x==y with
    | true=>
     rw[hx]at q;cases q;exact .inr ⟨_,pushCells_keeps _ _ _ _ (Heap.get?_push_size _ rfl),rfl⟩
    | false=>rw[hx]at q;exact .inl q
   ·exact .inr q
  ·rename_i hk;rw[if_neg hk]at e;exact Zw r h acc x c e
theorem envC{M:Model}{A:Around}{E:Value->Shared->Prop}{s:Shared}{scope:Scope}{globals:Addr}{cl:List (Str×Addr)}{qual:Str}{env:Env}{Q:Env->Shared->Prop}
  (h:Q (newEnv scope s.heap.objs.size globals (cellsFrom (s.heap.objs.size+1) scope.names cl) qual none .none (some env) builtinsNs) {s with heap:=pushCells (s.heap.push {cls:=.type "dict",data:=.dict #[]}) scope.names}) :
  wpAny M A (newFunctionEnv scope globals cl [] qual none .none (some env)) Q E s:=by
 simp only[newFunctionEnv,Option.isSome_some,if_true];refine wpAny_bind (wpAny_alloc ?_);refine wpAny_bind (wpAny_layCells _ (fun name kind cells=>by cases hkc:kind==NameKind.cell<;>simp[hkc]) _ _ _ _ ?_);rw[show({s with heap:=s.heap.push {cls:=.type "dict",data:=.dict #[]}}:Shared).heap.objs.size=s.heap.objs.size+1 from Heap.size_push ..];rw[List.forIn_nil];exact wpAny_bind (wpAny_pure (wpAny_pure h))
noncomputable def blk(X:Cx)(scope:Scope)(ow:List Str)(ci:List Nat)(C:Addr)(s₀:Shared)(H₀:Hp)(ex:List Addr)(pn:List (Addr×Obj)):Cx:=
 {X with N:=ow++ci.map fun j=>X.N.getD j "",s₀:=s₀,H₀:=H₀,env:=compEnvC scope (cellsFrom (C+1) scope.names (closL X.env scope.names [])) C X.env,outer:=X.stack,stack:=X.stack,ex:=ex,fn:=fun x=>scope.names.lookup x==some .cell,pn:=pn,xe:=fun _ _=>False}
structure CompScope(X:Cx)(scope:Scope)(ow:List Str)(ci:List Nat):Prop where
 kind:scope.kind = .function
 cell:∀y∈scope.names,y.2 = .cell->scope.names.lookup y.1=some .cell
 names:∀y∈scope.names,y.2 = .local->scope.names.lookup y.1=some .local
 free:∀y∈scope.names,y.2 = .free->X.env.kindOf y.1=some .cell\/X.env.kindOf y.1=some .free
 ix:∀j∈ci,j<X.N.length/\scope.names.lookup (X.N.getD j "")=some .free
noncomputable def compOk(fsc:Scope)(N:List Str)(scope:Scope)(ci:List Nat):Bool:=
 scope.kind == .function&&scope.names.all (fun y=>y.2 != .cell||scope.names.lookup y.1==some .cell)&&scope.names.all (fun y=>y.2 != .local||scope.names.lookup y.1==some .local) &&
 scope.names.all (fun y=>y.2 != .free||fsc.names.lookup y.1==some .cell||fsc.names.lookup y.1==some .free)&&ci.all (fun j=>decide (j<N.length)&&scope.names.lookup (N.getD j "")==some .free)
theorem CompScope.of{X:Cx}{scope:Scope}{ow:List Str}{ci:List Nat}(fsc:Scope)(N:List Str)(e1:X.env.scope=fsc)(e2:X.N=N)(h:compOk fsc N scope ci=true):CompScope X scope ow ci:=by
 subst e1 e2;unfold compOk at h;simp only[Bool.and_eq_true,all_eq_true,Bool.or_eq_true,bne_iff_ne,ne_eq,beq_iff_eq,decide_eq_true_eq]at h;obtain⟨⟨⟨⟨h1,h2⟩,h3⟩,h4⟩,h5⟩:=h;refine⟨h1,fun y hy e=>(h2 y hy).resolve_left fun z=>z e,fun y hy e=>?_,fun y hy e=>?_,fun j hj=>h5 j hj⟩
 ·rcases h3 y hy with z | z
  ·exact absurd e z
  ·exact z
 ·rcases h4 y hy with(z | z) | z
  ·exact absurd e z
  ·exact .inl z
  ·exact .inr z
theorem qp{X:Cx}{scope:Scope}{ow:List Str}{ci:List Nat}{C:Addr}{s₀:Shared}{H₀:Hp}{ex:List Addr}{pn:List (Addr×Obj)}(N:List Str)(e:X.N=N)(h:(ow++ci.map fun j=>N.getD j "").Nodup):(blk X scope ow ci C s₀ H₀ ex pn).N.Nodup:=by
 subst e;exact h
noncomputable def capAt(σ:St)(j:Nat):Option V:=match σ[j]? with | some o=>o | none=>none
noncomputable def capS(n:Nat)(ci:List Nat)(σ:St):St:=List.replicate n none++ci.map (capAt σ)
def tComp(wi:TI)(n:Nat)(ci:List Nat)(g:TG)(tf:TT)(te:TE):TE:=fun σ H Q=>wi σ H fun J H1=>∃W:Nat->Nat->List V->Hp->Prop,(∃m,W 0 m [] H1)/\∀i m ys H,W i m ys H->
 (J.stop i H/\ys.length<=sizeLine/\∀p,H p=none->Q (.ref p) (upd H p (.lst ys)))\/
 (J.go i H/\∃N:List V->Hp->Prop,(∀ys' H',N ys' H'->∃m',m'<m/\W (i+1) m' ys' H')/\∀x H',J.yld i H x H'->g x (capS n ci σ) H' fun σ2 H2=>tf σ2 H2 fun b H3=>
  if b=true then te σ2 H3 fun v H4=>ys.length<sizeLine/\N (ys++[v]) H4 else N ys H3)
section
variable{X:Cx}{pins:List (Addr×Obj)}{σ:St}{H:Hp}{s:Shared}{elt iter tg:Expr}{ifs:List Expr}{scope:Scope}{pos:Pos}{ow:List Str}{ci:List Nat}{g:TG}{tf:TT}{te:TE}
theorem CompScope.cells(S:CompScope X scope ow ci)(ok:X.Ok):∀y∈scope.names,y.2 = .free->∃c,X.env.cells.lookup y.1=some c:=fun y hy e=>ok.has y.1 (S.free y hy e)
theorem CompScope.sub(S:CompScope X scope ow ci)(ok:X.Ok):∀x c,(closL X.env scope.names []).lookup x=some c->X.env.cells.lookup x=some c:=
 yj scope.names [] (S.cells ok) fun _ _ e=>by simp at e
theorem CompScope.cel(S:CompScope X scope ow ci)(ok:X.Ok){C:Addr}{x:Str}{c:Addr}(h:(cellsFrom (C+1) scope.names (closL X.env scope.names [])).lookup x=some c):C+1<=c\/X.env.cells.lookup x=some c:=
 (zM _ _ _ _ _ h).imp id (S.sub ok x c)
theorem W3(S:CompScope X scope ow ci)(I:Inv X pins σ H s){C:Addr}{ex:List Addr}{pn:List (Addr×Obj)}(hC:s.heap.objs.size<=C)
  (hex:∀b∈ex,b<s.heap.objs.size/\FpOk X pins H b):(blk X scope ow ci C s H ex pn).Ok where
 mod:=I.ok.mod
 kind:=S.kind
 glob:=I.ok.glob
 blt:=I.ok.blt
 above:=hC
 inj:=Y3 scope.names (C+1) _ (fun x c e=>by
   obtain⟨v,q⟩:=I.cell x c (S.sub I.ok x c e);exact Nat.lt_succ_of_le (Nat.le_of_lt (Nat.lt_of_lt_of_le q.lt hC))) fun x y c h1 h2=>I.ok.inj x y c (S.sub I.ok x c h1) (S.sub I.ok y c h2)
 has:=fun x h=>by
  have h':∃k,(relabel scope X.env).names.lookup x=some k/\(k = .cell\/k = .free):=by
   rcases h with h | h
   ·exact⟨_,h,.inl rfl⟩
   ·exact⟨_,h,.inr rfl⟩
  obtain⟨k,hl,hk⟩:=h';obtain⟨k',hm,_,e⟩:=qZ (env:=X.env) hl;have hf:k' = .cell\/k' = .free:=by
   rcases e with e | ⟨e,_⟩
   ·subst e;exact hk
   ·exact .inr e
  rcases hf with hf | hf
  ·subst hf;exact Y2 scope.names _ _ x hm
  ·subst hf;exact yJ scope.names _ _ x (zN scope.names [] x hm)
 cab:=fun x c h e=>Nat.le_trans (Nat.le_trans hC (Nat.le_succ _)) (Y4 scope.names (C+1) (C+1) _ x c (Nat.le_refl _) (.inl (PySem.mem_of_lookup (beq_iff_eq.mp h))) e)
 hd:=I.ok.hd
 frames:=I.ok.frames
 stk:=.inl rfl
 exf:=fun b hb=>⟨Nat.ne_of_lt (Nat.lt_of_lt_of_le (hex b hb).1 hC),fun x c e=>(S.cel I.ok e).elim (fun q z=>Nat.lt_irrefl _ (Nat.lt_of_lt_of_le (z▸(hex b hb).1) (Nat.le_trans hC (Nat.le_trans (Nat.le_succ _) q)))) fun q=>(hex b hb).2.2.2.2.2.1 x c q⟩
 bs:=I.bs
 bsz:=Nat.le_trans I.ok.bsz I.sz
 noex:=fun b o e hb=>by
  obtain⟨_,_,_,h3,_⟩:=(hex b hb).2;rcases h3 with z | z
  ·exact I.ok.noex b o e z
  ·exact absurd (Nat.lt_of_lt_of_le (Heap.lt_size e) (Nat.le_trans I.ok.bsz z)) (Nat.lt_irrefl _)
 exfs:=fun b hb z=>by
  obtain⟨_,h1,h2,_⟩:=(hex b hb).2;rcases mem_cons.mp (I.stkSub b z)with e | e
  ·exact h1 e
  ·exact h2 e
 funs:=I.stack
 frf:=I.stkFree
theorem Kf(S:CompScope X scope ow ci)(I:Inv X pins σ H s){C:Addr}{ex:List Addr}{h₁:Heap}{t₁:Nat}{m₀:Str->Option Value}(hC:s.heap.objs.size<=C)
  (hex:∀b∈ex,b<s.heap.objs.size/\FpOk X pins H b) (hn:h₁.Ns C m₀) (k:∀b o,s.heap.get? b=some o->h₁.get? b=some o)
  (hnew:∀x c,(cellsFrom (C+1) scope.names (closL X.env scope.names [])).lookup x=some c->(closL X.env scope.names []).lookup x=some c\/h₁.IsCell c none) :
  Inv (blk X scope ow ci C s H ex (X.pn++pins)) [] (capS ow.length ci σ) H {s with heap:=h₁,toks:=t₁}:=by
 have ok:=W3 (pn:=X.pn++pins) S I hC hex;refine⟨ok,rfl,I.bare,Un.kept k,⟨m₀,hn,fun i x v e1 e2 e3=>?_⟩,fun x c e=>?_,I.hok.fresh hC,fun x c e=>(S.cel I.ok e).elim (fun q=>I.hok.fresh (Nat.le_trans hC (Nat.le_trans (Nat.le_succ _) q))) (I.freeC x c),fun p hp=>?_,I.hok.kept k,?_⟩
 ·have e1':(ow++ci.map fun j=>X.N.getD j "")[i]?=some x:=e1;unfold capS at e2;by_cases hi:i<ow.length
  ·rw[List.getElem?_append_left (by simpa using hi),List.getElem?_replicate,if_pos hi]at e2;cases e2
  ·rw[List.getElem?_append_right (by simpa using hi),List.getElem?_map,List.length_replicate]at e2;rw[List.getElem?_append_right (by omega),List.getElem?_map]at e1';cases hj:ci[i-ow.length]? with
   | none=>rw[hj]at e2;cases e2
   | some j=>
    rw[hj]at e1' e2;obtain⟨hl,hf⟩:=S.ix j (mem_of_getElem? hj);have ex':X.N.getD j ""= x:=Option.some.inj e1';have eN:X.N[j]?=some x:=by
     rw[<-ex',getD_eq_getElem?_getD,List.getElem?_eq_getElem hl];rfl
    have ev:σ[j]?=some (some v):=by
     have e2':capAt σ j=some v:=Option.some.inj e2;unfold capAt at e2';cases q:σ[j]? with
     | none=>rw[q]at e2';cases e2'
     | some o=>rw[q]at e2';rw[show o=some v from e2']
    rw[ex']at hf;have hmem:(x,NameKind.free)∈scope.names:=PySem.mem_of_lookup hf;have hk:=S.free _ hmem rfl;obtain⟨m,_,hl'⟩:=I.loc;have vis:Vis X.env.scope x:=by
     rcases hk with q | q
     ·exact .inr (.inl q)
     ·exact .inr (.inr q)
    obtain⟨u,r,lk⟩:=hl' j x v eN ev vis;refine⟨u,r,.inr ⟨?_,?_⟩⟩
    ·rcases e3 with q | q | q
     ·obtain⟨k',_,h2,h3⟩:=qZ (env:=X.env) q;rw[hf]at h2;cases h2;rcases h3 with h3 | ⟨_,h3⟩<;>cases h3
     ·exact .inl q
     ·exact .inr q
    ·rcases lk with⟨q,_⟩ | ⟨_,c,hc,hcell⟩
     ·have q':X.env.kindOf x=some .local:=q;rcases hk with z | z<;>(rw[z]at q';cases q')
     ·obtain⟨c',hc'⟩:=zN (env:=X.env) scope.names [] x hmem;have e:=S.sub I.ok x c' hc';rw[hc]at e;cases e;refine⟨c,?_,hcell.keeps k⟩;show(cellsFrom (C+1) scope.names (closL X.env scope.names [])).lookup x=some c;rw[Y5 scope.names _ _ x fun z=>?_]
      ·exact hc'
      ·have:=S.cell _ z rfl;rw[hf]at this;cases this
 ·rcases hnew x c e with q | q
  ·obtain⟨v,q⟩:=I.cell x c (S.sub I.ok x c q);exact⟨v,q.keeps k⟩
  ·exact⟨_,q⟩
 ·have hp':p∈X.pn++pins:=by
   rcases mem_append.mp hp with z | z
   ·exact z
   ·cases z
  obtain⟨e,n,ne,nf,d⟩:=I.pin p hp';refine⟨k _ _ e,n,Nat.ne_of_lt (Nat.lt_of_lt_of_le (Heap.lt_size e) hC),fun z=>?_,d⟩;rcases mem_cons.mp (I.stkSub p.1 z)with q | q
  ·exact ne q
  ·exact nf q
 ·show(capS ow.length ci σ).length=(ow++ci.map fun j=>X.N.getD j "").length;simp[capS]
theorem Inv.forget{σ':St}(I:Inv X pins σ' H s)(n:Nat)(ci:List Nat)(σ:St)(hl:(capS n ci σ).length=X.N.length)(h:∀i v,n<=i->(capS n ci σ)[i]?=some (some v)->σ'[i]?=some (some v)):Inv X pins (capS n ci σ) H s:=
 I.weak (by rw[hl,I.len]) fun i v e=>by
  by_cases hi:n<=i
  ·exact h i v hi e
  ·unfold capS at e;rw[List.getElem?_append_left (by simpa using hi),List.getElem?_replicate,if_pos (by omega)]at e;cases e
def GKeeps(n:Nat)(g:TG):Prop:=∀x σ H (Q:St->Hp->Prop),g x σ H Q->g x σ H fun σ2 H2=>(∀(i:Nat) v,n<=i->σ[i]?=some (some v)->σ2[i]?=some (some v))/\Q σ2 H2
theorem J2{n i:Nat}(h:i<n):GKeeps n (gName i):=fun x σ H Q q=>⟨fun j v hj e=>by rw[List.getElem?_set_ne (by omega)];exact e,q⟩
theorem We{K:Frg}{n i j:Nat}(hi:i<n)(hj:j<n):GKeeps n (gTup K 2 (gCons (gName i) (gCons (gName j) gNil))):=fun x σ H Q q=>by
 obtain⟨a,xs,e1,e2,e3,v,r,e4,v',r',e5,e6,q⟩:=q;refine⟨a,xs,e1,e2,e3,v,r,e4,v',r',e5,e6,fun k u hk e=>?_,q⟩;rw[List.getElem?_set_ne (by omega),List.getElem?_set_ne (by omega)];exact e
theorem Zx{E:Value->Shared->Prop}{J:It}{fp:List Addr}{it:Addr}{tn:Nat->Heap->Prop}{RR:Value->Addr->Result->Shared->Prop}(hc:X.calm=true)(S:CompScope X scope ow ci)(hk:GKeeps ow.length g)
  (hb:∀C s₀ H₀ ex pn,PG (blk X scope ow ci C s₀ H₀ ex pn) tg g/\PF (blk X scope ow ci C s₀ H₀ ex pn) ifs tf/\PE (blk X scope ow ci C s₀ H₀ ex pn) elt te)
  (I:Inv X pins σ H s) (T:Turn X.prog X.w X.K tg J fp it tn) (st:tn 0 s.heap) (hf:∀b∈fp,FpOk X pins H b) (Z:List V->Hp->Prop)
  (W:Nat->Nat->List V->Hp->Prop) (w0:∃m,W 0 m [] H)
  (turn:∀i m ys H,W i m ys H->(J.stop i H/\ys.length<=sizeLine/\Z ys H)\/
   (J.go i H/\∃N:List V->Hp->Prop,(∀ys' H',N ys' H'->∃m',m'<m/\W (i+1) m' ys' H')/\∀x H',J.yld i H x H'->g x (capS ow.length ci σ) H' fun σ2 H2=>tf σ2 H2 fun b H3=>
    if b=true then te σ2 H3 fun v H4=>ys.length<sizeLine/\N (ys++[v]) H4 else N ys H3))
  (fin:∀D C s' H' m ys,Inv X pins σ (upd H' D (.lst ys)) s'->H' D=none->Z ys H'->s'.heap.Ns C m->s.heap.objs.size<=C->C≠D->H' C=none->RR (.ref D) C (.ok .next) s') :
  wpAny (model X.prog X.w) X.A (newList []) (fun acc s₃=>wpAny (model X.prog X.w) X.A (newFunctionEnv scope X.env.globals (closL X.env scope.names []) [] X.env.qual none .none (some X.env)) (fun cenv s₄=>
   codeAny (model X.prog X.w) X.A (.compStart (.ListComp elt [⟨tg,iter,ifs,0⟩] scope pos) 0 (.ref it) acc {cenv with scope:=relabel scope X.env}) (RR acc cenv.locals) s₄) E s₃) E s:=by
 refine wpAny_newObj_type (envC ?_);dsimp only;generalize hs3:({s with heap:=s.heap.push {cls:=.type "list",dict:=none,data:=.seq ([]:List Value).toArray}}:Shared)=s3;have e3:s3.heap=s.heap.push {cls:=.type "list",dict:=none,data:=.seq ([]:List Value).toArray}:=by rw[<-hs3]
 rw[<-e3];generalize hh1:pushCells (s3.heap.push {cls:=.type "dict",data:=.dict #[]}) scope.names=h₁;have k3:∀b o,s.heap.get? b=some o->s3.heap.get? b=some o:=fun b o e=>by rw[e3];exact Heap.get?_push_of_some _ e
 have hsz:s3.heap.objs.size=s.heap.objs.size+1:=by rw[e3,Heap.size_push]
 have I3:Inv X pins σ H s3:=by rw[<-hs3];exact I.kept (t':=s.toks) fun b o e=>Heap.get?_push_of_some _ e
 have hD3:s3.heap.get? s.heap.objs.size=some {cls:=.type "list",dict:=none,data:=.seq ([]:List Value).toArray}:=by rw[e3];exact Heap.get?_push_size _ rfl
 generalize hDD:s.heap.objs.size=D at *;generalize hCC:s3.heap.objs.size=C at *;have hDC:D<C:=by omega
 have hHD:H D=none:=I.hok.fresh (Nat.le_of_eq hDD);have fpD:FpOk X pins H D:=I.fpOk (Nat.le_of_eq hDD) hHD;have ltD:∀(b:Addr) o,s.heap.get? b=some o->b<D:=fun b o e=>by rw[<-hDD];exact Heap.lt_size e
 have ltC:∀(b:Addr) o,s3.heap.get? b=some o->b<C:=fun b o e=>by rw[<-hCC];exact Heap.lt_size e
 have hflt:∀b∈fp,b<D:=fun b hb=>by
  obtain⟨o,e,_⟩:=T.obj 0 _ st b hb;exact ltD b o e
 have hex:∀b∈D::fp,b<s3.heap.objs.size/\FpOk X pins H b:=fun b hb=>by
  rw[hCC];rcases mem_cons.mp hb with rfl | hb
  ·exact⟨hDC,fpD⟩
  ·exact⟨Nat.lt_trans (hflt b hb) hDC,hf b hb⟩
 have kk:∀b o,s3.heap.get? b=some o->h₁.get? b=some o:=fun b o e=>by rw[<-hh1];exact pushCells_keeps _ _ b o (Heap.get?_push_of_some _ e)
 have hns₁:h₁.Ns C fun _=>none:=by rw[<-hh1,<-hCC];exact(Heap.Ns.new s3.heap (.type "dict")).keeps (pushCells_keeps _ _)
 have hnew:∀x c,(cellsFrom (C+1) scope.names (closL X.env scope.names [])).lookup x=some c->(closL X.env scope.names []).lookup x=some c\/h₁.IsCell c none:=fun x c e=>by
  rw[<-hh1];refine Zw scope.names _ _ x c ?_;rw[Heap.size_push,hCC];exact e
 obtain⟨hg,hfl,he⟩:=hb C s3 H (D::fp) (X.pn++pins);generalize hY:blk X scope ow ci C s3 H (D::fp) (X.pn++pins)=Y at hg hfl he;have Yprog:Y.prog=X.prog:=by rw[<-hY];rfl
 have Yw:Y.w=X.w:=by rw[<-hY];rfl
 have YK:Y.K=X.K:=by rw[<-hY];rfl
 have YA:Y.A=X.A:=by rw[<-hY];rfl
 have Yc:Y.calm=true:=by rw[<-hY];exact hc
 have Yenv:Y.env=compEnvC scope (cellsFrom (C+1) scope.names (closL X.env scope.names [])) C X.env:=by rw[<-hY];rfl
 have Yxe:Y.xe=fun _ _=>False:=by rw[<-hY];rfl
 have Yfs:Y.fs=frs X.stack:=by rw[<-hY];rfl
 have Yex:Y.ex=D::fp:=by rw[<-hY];rfl
 have Ypn:Y.pn=X.pn++pins:=by rw[<-hY];rfl
 have Ys:Y.s₀=s3:=by rw[<-hY];rfl
 have YH:Y.H₀=H:=by rw[<-hY];rfl
 have YN:(capS ow.length ci σ).length=Y.N.length:=by rw[<-hY];show(capS ow.length ci σ).length=(ow++ci.map fun j=>X.N.getD j "").length;simp[capS]
 have own:∀b∈D::fp,b≠Y.env.locals/\b∉Y.fs/\b∈Y.ex/\(∀x c,Y.env.cells.lookup x=some c->c≠b)/\∀p∈Y.pn,p.1≠b:=fun b hb=>by
  obtain⟨h0,h1,h2,h3,h4,h5⟩:=(hex b hb).2;refine⟨by rw[Yenv];exact Nat.ne_of_lt (hCC▸(hex b hb).1),fun z=>?_,by rw[Yex];exact hb,fun x c e=>?_,by rw[Ypn];exact h5⟩
  ·rw[Yfs]at z;rcases mem_cons.mp (I.stkSub b z)with q | q
   ·exact h1 q
   ·exact h2 q
  ·rw[Yenv]at e;rcases S.cel I.ok e with q | q
   ·exact fun z=>Nat.lt_irrefl _ (Nat.lt_of_lt_of_le (hCC▸(hex b hb).1) (Nat.le_trans (Nat.le_succ _) (z▸q)))
   ·exact h4 x c q
 have nDf:D∉fp:=fun z=>Nat.lt_irrefl _ (hflt D z)
 have loop:∀s4:Shared,Inv Y [] (capS ow.length ci σ) H s4->tn 0 s4.heap->s4.heap.PlainList D #[]->
   codeAny (model X.prog X.w) X.A (.compLoop (.ListComp elt [⟨tg,iter,ifs,0⟩] scope pos) 0 (.ref it) (.ref D) (compEnvC scope (cellsFrom (C+1) scope.names (closL X.env scope.names [])) C X.env)) (RR (.ref D) C) s4:=by
  intro s4 J4 st4 pl4;obtain⟨m0,w0⟩:=w0;refine compLoopT (fun n s'=>∃i ys its H',Inv Y [] (capS ow.length ci σ) H' s'/\tn i s'.heap/\(∀b∈fp,H' b=none)/\H' D=none/\s'.heap.PlainList D its/\Vals ys its.toList/\W i n ys H') ?_ m0
   ⟨0,[],#[],H,J4,st4,fun b hb=>(hf b hb).1,hHD,pl4,.nil,w0⟩
  rintro n s5 ⟨i,ys,its,H5,J5,st5,fr5,hD5,⟨pn5,pl5⟩,va5,w5⟩;have vl:ys.length=its.size:=by have:=va5.length;simpa using this
  have pinD:∀{H':Hp} {s':Shared} {σ':St},Inv Y [] σ' H' s'->H' D=none->∀{o:Obj},s'.heap.get? D=some o->(∀v,o.data≠.cell v)->Inv Y [(D,o)] σ' H' s':=fun {H' s' σ'} K hD o e d=>
   K.pins_of fun p hp=>by
    have ep:p=(D,o):=by simpa using hp
    subst ep;obtain⟨a1,a2,_⟩:=own D mem_cons_self;exact⟨e,hD,a1,a2,d⟩
  have P5:=pinD J5 hD5 pl5 (fun v z=>by cases z);have fpk:∀{H':Hp},(∀b∈fp,H' b=none)->∀{o:Obj},∀b∈fp,FpOk Y [(D,o)] H' b:=fun {H'} hn {o} b hb=>by
   obtain⟨a1,a2,a3,a4,a5⟩:=own b (mem_cons_of_mem _ hb);refine⟨hn b hb,a1,a2,.inl a3,a4,fun p hp=>?_⟩;rcases mem_append.mp hp with q | q
   ·exact a5 p q
   ·have ep:p=(D,o):=by simpa using q
    subst ep;exact fun z=>nDf (by have z':D=b:=z;rw[z'];exact hb)
  rcases turn i n ys H5 w5 with⟨stop,hsz5,z5⟩ | ⟨go,NN,hNN,step⟩
  ·have d:=T.done Y Yprog Yw YK Yc i [(D,_)] s5 _ H5 (fun _ _=>False) P5 (fpk fr5) st5 stop;rw[YA]at d;refine thn d fun r s6 ⟨hr,J6⟩=>?_
   subst hr;have D6:=(J6.pin (D,_) (mem_append_right _ mem_cons_self)).1;obtain⟨mC,hnC,_⟩:=J6.loc;rw[Yenv]at hnC;have hnC':s6.heap.Ns C mC:=hnC;have hC6:H5 C=none:=by have:=J6.free;rw[Yenv]at this;exact this
   refine fin D C s6 H5 mC ys ?_ hD5 z5 hnC' (Nat.le_of_lt hDC) (Nat.ne_of_gt hDC) hC6;have B:=J6.base;rw[Yfs,Yex,YH,Ys]at B;have low:∀b o,s.heap.get? b=some o->b≠D/\b≠C:=fun b o e=>⟨Nat.ne_of_lt (ltD b o e),Nat.ne_of_lt (Nat.lt_trans (ltD b o e) hDC)⟩
   have nex:∀b o,s.heap.get? b=some o->b∉fp->b∉D::fp:=fun b o e hb z=>by
    rcases mem_cons.mp z with q | q
    ·exact(low b o e).1 q
    ·exact hb q
   have uN:Un (frs X.stack) fp H (upd H5 D (.lst ys)) s.heap s6.heap:=by
    refine⟨fun b o e n hb hx=>B.keep b o (k3 b o e) n hb (nex b o e hx),fun b o e n hb hx=>B.slot b o (k3 b o e) n hb (nex b o e hx),fun b o e n hx=>?_,fun b o e hx=>B.there b o (k3 b o e) (nex b o e hx),fun b xs q=>?_,fun b o u q=>?_,fun b ps q=>?_⟩
    ·rw[jk (low b o e).1];exact B.free b o (k3 b o e) n (nex b o e hx)
    ·rw[jk (je (B.tups b xs q) hD5)];exact B.tups b xs q
    ·rw[jk (je (B.frzs b o u q) hD5)];exact B.frzs b o u q
    ·obtain⟨mo,q'⟩:=B.tbls b ps q;exact⟨mo,by rw[jk (je q' hD5)];exact q'⟩
   have hok6:HOk X.prog X.w H5 s6.heap:=by rw[<-Yprog,<-Yw];exact J6.hok
   have hokN:HOk X.prog X.w (upd H5 D (.lst ys)) s6.heap:=fun b u e=>by
    by_cases hbD:b=D
    ·subst hbD;rw[jf]at e;cases e;exact⟨hsz5,its.toList,_,va5,by simpa using D6⟩
    ·rw[jk hbD]at e;exact(hok6 b u e).stay (fun c v _ q=>q) (fun c q=>by rw[jk (je q hD5)];exact q) fun c xs q=>by rw[jk (je q hD5)];exact q
   refine I.call' (by rw[J6.os,Ys,<-hs3]) uN hokN J6.bare fun b hb=>?_
   obtain⟨h0,h1,h2,h3,h4,h5⟩:=hf b hb;exact⟨h3,h1,h4,h5⟩
  ·have d:=T.item Y Yprog Yw YK Yc i [(D,_)] s5 _ H5 (fun _ _=>False) P5 (fpk fr5) st5 go;rw[YA]at d;refine thn d fun r s6 ⟨u,hr,h6⟩=>?_
   subst hr;refine thn h6 fun _ s7 ⟨x,H7,J7,r7,y7,st7,fr7⟩=>?_
   have J7':=J7.pinned (fpk fr7) (T.obj _ _ st7);have h8:=hg _ s7 _ H7 x u _ J7' r7 (hk _ _ _ _ (step x H7 y7));rw[Yprog,Yw,YA,Yenv,Yxe]at h8;refine thn h8 fun _ s8 ⟨σ8,H8,J8,ks8,q8⟩=>?_
   have h9:=hfl _ s8 σ8 H8 _ J8 q8;rw[Yprog,Yw,YA,Yenv,Yxe]at h9;refine thn h9 fun b s9 ⟨H9,J9,q9⟩=>?_
   have back:∀{H':Hp} {s':Shared},Inv Y ([(D,({cls:=.type "list",data:=.seq its pn5}:Obj))]++pinsAt fp s7.heap) σ8 H' s'->Inv Y [] (capS ow.length ci σ) H' s'/\tn (i+1) s'.heap/\(∀b∈fp,H' b=none)/\H' D=none/\s'.heap.get? D=some {cls:=.type "list",data:=.seq its pn5}:=fun {H' s'} K=>by
    have pD:=K.pin (D,_) (mem_append_right _ (mem_append_left _ mem_cons_self));refine⟨(K.pins_of (pins':=[]) (by simp)).forget _ _ _ YN (fun j v hj e=>ks8 j v hj e),T.keep _ _ _ st7 fun b hb o e=>(K.pin (b,o) (mem_append_right _ (mem_append_right _ (QF hb e)))).1,fun b hb=>?_,pD.2.1,pD.1⟩;obtain⟨o,e,_⟩:=T.obj _ _ st7 b hb;exact(K.pin (b,o) (mem_append_right _ (mem_append_right _ (QF hb e)))).2.1
   cases b with
   | false=>
    rw[if_neg Bool.false_ne_true]at q9|-;obtain⟨m',hm,w9⟩:=hNN _ _ q9;obtain⟨K9,st9,fr9,hD9,e9⟩:=back J9;exact⟨m',hm,i+1,ys,its,H9,K9,st9,fr9,hD9,⟨_,e9⟩,va5,w9⟩
   | true=>
    rw[if_pos rfl]at q9|-;have h10:=he _ s9 σ8 H9 _ J9 q9;rw[Yprog,Yw,YA,Yenv,Yxe]at h10;refine thn h10 fun z s10 ⟨v,H10,J10,r10,hlt,n10⟩=>?_
    obtain⟨m',hm,w10⟩:=hNN _ _ n10;obtain⟨K10,st10,fr10,hD10,e10⟩:=back J10;refine wpAny_list_append_plain (hsz:=by rw[<-vl];exact Nat.le_of_lt hlt) ⟨_,e10⟩ fun h11 pl11 hs11=>?_
    obtain⟨a1,a2,a3,a4,a5⟩:=own D mem_cons_self;have K11:Inv Y [] (capS ow.length ci σ) H10 {s10 with heap:=h11}:=K10.turned (t':=s10.toks) (fun b o hb e=>(hs11.2 b hb).trans e) hD10 a1 (.inl a3) a4 (fun p hp=>a5 p (by simpa using hp));refine⟨m',hm,i+1,ys++[v],its.push z,H10,K11,T.keep _ _ _ st10 fun b hb o e=>(hs11.2 b (fun q=>nDf (q▸hb))).trans e,fr10,hD10,pl11,?_,w10⟩;rw[Array.toList_push];exact va5.append (.cons r10 .nil)
 have J4:Inv Y [] (capS ow.length ci σ) H {s3 with heap:=h₁}:=by
  rw[<-hY];exact Kf (t₁:=s3.toks) S I3 (Nat.le_of_eq hCC) hex hns₁ kk hnew
 have st4:tn 0 h₁:=T.keep _ _ _ st fun b _ o e=>kk b o (k3 b o e)
 have pl4:h₁.PlainList D #[]:=⟨_,kk _ _ hD3⟩
 have L:=loop _ J4 st4 pl4;subst hs3;exact codeAny_compStart_list L (T.self _ 0 _ _ _ st4 L)
variable{wi:TI}
theorem qR(hc:X.calm=true)(S:CompScope X scope ow ci)(hk:GKeeps ow.length g)(hi:PI X tg iter wi)
  (hb:∀C s₀ H₀ ex pn,PG (blk X scope ow ci C s₀ H₀ ex pn) tg g/\PF (blk X scope ow ci C s₀ H₀ ex pn) ifs tf/\PE (blk X scope ow ci C s₀ H₀ ex pn) elt te)
  (hs:∀x,foldedSetIterable iter X.env x=pure x:=by intro _;rfl):PE X (.ListComp elt [⟨tg,iter,ifs,0⟩] scope pos) (tComp wi ow.length ci g tf te):=by
 intro pins s σ H Q I h;rw[eval_ListComp];refine wpAny_comprehension_free (use:=none) rfl hs (zx (S.cells I.ok)) S.kind S.names (thn (hi pins s σ H _ I h) fun v s1 h1=>thn h1 fun itv s2 h2=>?_);obtain⟨it,fp,tn,J,H2,e,I2,T,st2,f2,W,w0,turn⟩:=h2;subst e;refine Zx (RR:=fun acc C=>compPost (model X.prog X.w) X.A X.xe none (EP X pins σ Q) acc C) hc S hk hb I2 T st2 f2 (fun ys H=>∀p,H p=none->Q (.ref p) (upd H p (.lst ys))) W w0 turn fun D C s' H' m ys K hD z hn hC hCD hC0=>?_
 refine⟨m,hn,fun h' hs'=>⟨.ref D,upd H' D (.lst ys),?_,rfl,z D hD⟩⟩;obtain⟨f0,f1,f2',f3,f4,f5⟩:=I2.fpOk (H':=upd H' D (.lst ys)) hC (by rw[jk hCD];exact hC0);exact K.turned (t':=s'.toks) (fun b o hb e=>(hs'.2 b hb).trans e) f0 f1 f3 f4 f5
theorem Zp{i:Nat}{x:Str}{px spos:Pos}(hc:X.calm=true)(S:CompScope X scope ow ci)(hk:GKeeps ow.length g)(hN:X.N.Nodup)(hx1:X.N[i]?=some x)(hx:Loc X.env.scope x)(hi:PI X tg iter wi)
  (hb:∀C s₀ H₀ ex pn,PG (blk X scope ow ci C s₀ H₀ ex pn) tg g/\PF (blk X scope ow ci C s₀ H₀ ex pn) ifs tf/\PE (blk X scope ow ci C s₀ H₀ ex pn) elt te)
  (hsw:swapsWith (.ListComp elt [⟨tg,iter,ifs,0⟩] scope pos) (some (.Name x px)) spos.line X.env=pure true:=by rfl)
  (hf:X.fn x=true\/X.env.scope.names.lookup x=some .local:=by first | exact .inl rfl | exact .inr rfl | assumption)
  (hs:∀x,foldedSetIterable iter X.env x=pure x:=by intro _;rfl):PS X (.Assign [.Name x px] (.ListComp elt [⟨tg,iter,ifs,0⟩] scope pos) spos) (tAsg (tComp wi ow.length ci g tf te) (gName i)):=by
 intro pins s σ H D I h;rw[exec_Assign_Name_used _ _ _ _ hsw];refine wpAny_bind (wpAny_standAt (wpAny_bind ?_));show wpAny _ X.A (do let _ <-comprehension (.ListComp elt [⟨tg,iter,ifs,0⟩] scope pos) scope X.env _ (newList []) false (eval iter X.env) (some (assign (.Name x px) X.env))) _ _ s;refine wpAny_bind (wpAny_mono (wpAny_comprehension_free (use:=some (assign (.Name x px) X.env)) (Q:=fun _ s'=>SP X pins D .next s') rfl hs (zx (S.cells I.ok)) S.kind S.names
  (thn (hi pins s σ H _ I h) fun v s1 h1=>thn h1 fun itv s2 h2=>?_)) (fun _ s' hq=>wpAny_pure (wpAny_pure hq)) fun _ _ e=>e)
 obtain⟨it,fp,tn,J,H2,e,I2,T,st2,f2,W,w0,turn⟩:=h2;subst e;refine Zx (RR:=fun acc C=>compPost (model X.prog X.w) X.A X.xe (some (assign (.Name x px) X.env)) (fun _ s'=>SP X pins D .next s') acc C) hc S hk hb I2 T st2 f2
  (fun ys H=>∀p,H p=none->gName i (.ref p) σ (upd H p (.lst ys)) D.nx) W w0 turn fun P C s' H' m ys K hD z hn hC hCD hC0=>?_
 obtain⟨f0,f1,f2',f3,f4,f5⟩:=I2.fpOk (H':=upd H' P (.lst ys)) hC (by rw[jk hCD];exact hC0);show wpAny _ X.A (assign (.Name x px) X.env (.ref P)) _ _ s';refine wpAny_assign_Name (yy K hN hx1 hx (v:=.ref P) rfl (fun s3 K3 ⟨a,hs3,ha⟩=>⟨m,hn.sameBut hs3 ?_,fun h' hs'=>?_⟩) hf)
 ·rcases ha with q | q
  ·rw[q];exact f1
  ·exact fun z=>f4 x a q z.symm
 ·exact⟨_,_,K3.turned (t':=s3.toks) (fun b o hb e=>(hs'.2 b hb).trans e) f0 f1 f3 f4 f5,z P hD⟩
theorem Y6{lo:Int}{n k:Nat}{ci:List Nat}{g:TG}{tf:TT}{te:TE}{σ:St}{H:Hp}{Z:Addr->List V->Hp->Prop}(Pv:Nat->List V->Hp->Prop)(h0:Pv 0 [] H)
  (hs:∀i ys H,i<n->Pv i ys H->g (.int (lo+i)) (capS k ci σ) H fun σ2 H2=>tf σ2 H2 fun b H3=>if b=true then te σ2 H3 fun v H4=>ys.length<sizeLine/\Pv (i+1) (ys++[v]) H4 else Pv (i+1) ys H3)
  (hd:∀ys H,Pv n ys H->ys.length<=sizeLine/\∀p,H p=none->Z p ys H) :
  ∃W:Nat->Nat->List V->Hp->Prop,(∃m,W 0 m [] H)/\∀i m ys H,W i m ys H->
   ((Itr lo n).stop i H/\ys.length<=sizeLine/\∀p,H p=none->Z p ys H)\/
   ((Itr lo n).go i H/\∃N:List V->Hp->Prop,(∀ys' H',N ys' H'->∃m',m'<m/\W (i+1) m' ys' H')/\∀x H',(Itr lo n).yld i H x H'->g x (capS k ci σ) H' fun σ2 H2=>tf σ2 H2 fun b H3=>
    if b=true then te σ2 H3 fun v H4=>ys.length<sizeLine/\N (ys++[v]) H4 else N ys H3):=by
 refine⟨fun i m ys H=>m=n-i/\i<=n/\Pv i ys H,⟨n,by simp,Nat.zero_le _,h0⟩,?_⟩;rintro i m ys H ⟨rfl,hi,p⟩;by_cases hlt:i<n
 ·refine .inr ⟨hlt,Pv (i+1),fun ys' H' p'=>⟨n-(i+1),by omega,rfl,hlt,p'⟩,fun x H' y=>?_⟩;obtain⟨e,y⟩:=y;subst e y;exact hs i ys _ hlt p
 ·have e:i=n:=by omega
  subst e;exact .inl ⟨Nat.le_refl _,hd ys H p⟩
theorem Jk{K:Frg}{a:Addr}{xs:List V}{k:Nat}{ci:List Nat}{g:TG}{tf:TT}{te:TE}{σ:St}{H:Hp}{Z:Addr->List V->Hp->Prop}(Pv:Nat->List V->Hp->Prop)(h0:Pv 0 [] H)(hl:∀i ys H,i<=xs.length->Pv i ys H->SqL K H a xs)
  (hs:∀i x ys H,xs[i]?=some x->Pv i ys H->g x (capS k ci σ) H fun σ2 H2=>tf σ2 H2 fun b H3=>if b=true then te σ2 H3 fun v H4=>ys.length<sizeLine/\Pv (i+1) (ys++[v]) H4 else Pv (i+1) ys H3)
  (hd:∀ys H,Pv xs.length ys H->ys.length<=sizeLine/\∀p,H p=none->Z p ys H) :
  ∃W:Nat->Nat->List V->Hp->Prop,(∃m,W 0 m [] H)/\∀i m ys H,W i m ys H->
   ((Itl K a).stop i H/\ys.length<=sizeLine/\∀p,H p=none->Z p ys H)\/
   ((Itl K a).go i H/\∃N:List V->Hp->Prop,(∀ys' H',N ys' H'->∃m',m'<m/\W (i+1) m' ys' H')/\∀x H',(Itl K a).yld i H x H'->g x (capS k ci σ) H' fun σ2 H2=>tf σ2 H2 fun b H3=>
    if b=true then te σ2 H3 fun v H4=>ys.length<sizeLine/\N (ys++[v]) H4 else N ys H3):=by
 refine⟨fun i m ys H=>m=xs.length-i/\i<=xs.length/\Pv i ys H,⟨xs.length,by simp,Nat.zero_le _,h0⟩,?_⟩;rintro i m ys H ⟨rfl,hi,p⟩;have q:=hl i ys H hi p;by_cases hlt:i<xs.length
 ·refine .inr ⟨⟨xs,xs[i],q,by simp[hlt]⟩,Pv (i+1),fun ys' H' p'=>⟨xs.length-(i+1),by omega,rfl,hlt,p'⟩,fun x H' y=>?_⟩;obtain⟨e,y⟩:=y;subst e;exact hs i x ys _ (y xs q) p
 ·have e:i=xs.length:=by omega
  subst e;exact .inl ⟨⟨xs,q,Nat.le_refl _⟩,hd ys H p⟩
end
theorem kU:(10:Nat)^250<2^831:=by decide +kernel
theorem Ye{x:Int}(h1 : -10^250<=x)(h2:x<=10^250):Builtin.Int.intBits x<=1048576:=by
 refine Nat.le_trans (PySem.intBits_le_iff.mpr ?_:Builtin.Int.intBits x<=831) (by decide);have:x.natAbs<=10^250:=by omega
 exact Nat.lt_of_le_of_lt this kU
theorem mulOk{x y:Int}(h1 : -10^250<=x)(h2:x<=10^250)(h3 : -10^250<=y)(h4:y<=10^250):IntMulOk x y:=.of_bits (Ye h1 h2) (Ye h3 h4)
section
variable{X:Cx}
theorem JP:OpR X (binaryOp .Mult) (rI IntMulOk fun i j=>.int (i*j)):=opI fun _ _ _ _ _ _ _ hc q=>mul_int q hc
def CDivB(_ j:Int):Prop:=0<j/\j<=10^250
theorem cdivB{i j:Int}(h1:0<j)(h2:j<=10^250):CDivB i j:=⟨h1,h2⟩
theorem JF:OpR X (binaryOp .FloorDiv) (rI CDivB fun i j=>.int (i/j)):=opI fun i j _ _ _ _ _ hc q=>by
 have h1:(0:Int)<j:=hc.1;have h2:j<=10^250:=hc.2;refine floordiv_int (by omega) ?_ (.inl (PyProof.noPylong_of_log2 ?_))
 ·rw[Int.fdiv_eq_ediv_of_nonneg _ (by omega)];exact q
 ·have e:j.natAbs<=10^250:=by omega
  have g:j.natAbs.log2<831:=(Nat.log2_lt (by omega)).mpr (Nat.lt_of_le_of_lt e kU);omega
theorem K2:CallR X (.builtin "isinstance") (fun xs H Q=>∃x T t b,xs=[x,.ty T]/\TyOf X.K H x t/\PySem.W.kitOne X.K t (.type T)=some b/\Q (.bl b) H):=by
 intro pins s σ H xs us Q I r h;obtain⟨x,T,t,b,rfl,ty,e,q⟩:=h;obtain⟨u,w',rfl,rx,rT⟩:=vals2 r;cases(show w'=Value.type T from rT);exact Kq I rx ty e fun tk=>⟨.bl b,H,I.tok _,rfl,q⟩
theorem KK{prog:Program}{w:World}{A:Around}{E:Value->Shared->Prop}{s:Shared}{l:Addr}{xs:Array (Int×Tok)}{Q:Value->Shared->Prop}(hh:A.handled=none)(hl:s.heap.IsList l (intItems xs))
  (h:∀h' tk t',(∀b o,s.heap.get? b=some o->h'.get? b=some o)->Q (.int (preSum (numAt xs) xs.size) t') {s with heap:=h',toks:=tk}) :
  wpAny (model prog w) A (call (.builtin "sum") [.ref l]) Q E s:=by
 obtain⟨o,ho,hc,n,hd⟩:=id hl;have hne:l≠s.heap.objs.size:=Nat.ne_of_lt (Heap.lt_size ho);have hsz:(intItems xs).size=xs.size:=by simp[intItems]
 have W:=(Walks.list (prog:=prog) (w:=w) (A:=A.in1) hh s.heap.objs.size l hne (intItems xs)).toS;rw[hsz]at W;refine call_sum_walkAnyS (wpAny_pyIter_list hl ?_);refine⟨s.heap.objs.size,_,_,_,_,_,_,numAt xs,rfl,W,⟨⟨_,Heap.get?_push_size _ rfl,rfl,rfl⟩,hl.at fun o e=>Heap.get?_push_of_some _ e⟩,fun b hb=>?_,fun i v hP=>intItems_at hP,fun s' t' hm=>?_⟩
 ·rcases mem_cons.mp hb with rfl | hb
  ·exact Heap.lt_size (Heap.get?_push_size _ rfl)
  ·obtain rfl:=mem_singleton.mp hb;exact Heap.lt_size (Heap.get?_push_of_some _ ho)
 ·obtain⟨h',g',d',tk',os'⟩:=s';have e1:g'=s.gens:=hm.gens;have e2:d'=s.drawn:=hm.drawn;have e3:os'=s.os:=hm.os;subst e1 e2 e3;exact h h' tk' t' fun b o e=>hm.heap b o (fun hb=>absurd (Heap.lt_size e) ((mem_singleton.mp hb)▸Nat.lt_irrefl _)) (Heap.get?_push_of_some _ e)
theorem zL(hc:X.calm=true):CallR X (.builtin "sum") (fun xs H Q=>∃(p:Addr) (ns:List Int),xs=[.ref p]/\SqL X.K H p (ns.map V.int)/\Q (.int ns.sum) H):=by
 intro pins s σ H xs us Q I r h;obtain⟨p,ns,rfl,hx,q⟩:=h;obtain⟨u,rfl,rx⟩:=vals1 r;cases rx;obtain⟨its,r',pl,hz⟩:=I.list hx;have hi:IntsAre its ns:=intsAre_of r';obtain⟨ys,hy⟩:=hi.allInts.items;have hn:numsOf its.toArray.toList=ns:=by rw[show its.toArray.toList=its from rfl,hi.numsOf]
 have hl:=pl.isList;rw[hy]at hl hn;rw[nums_intItems]at hn;refine KK (I.ok.hd hc) hl fun h' tk t' hk=>?_
 rw[preSum_eq,take_of_length_le (by simp),hn];exact⟨.int ns.sum,H,I.kept hk,⟨_,rfl⟩,q⟩
end
end L2
namespace Att
open PySem PySem.W PySem.Calls PyProof.Rows
theorem zZ:∀(ns:List Int) (x:Int),x∈ns->Builtin.Int.intBits x<=WData.weightAll (ns.map WData.int)
 | [],_,h=>by cases h
 | n::r,x,h=>by
  show _<=WData.weight (.int n)+1+WData.weightAll (r.map WData.int);rcases mem_cons.mp h with e | h
  ·subst e;have e:Builtin.Int.intBits x=WData.weight (.int x):=by
    unfold Builtin.Int.intBits WData.weight;rfl
   omega
  ·have:=zZ r x h;omega
theorem yE{l:OpenLaw}{n:Nat}{q:Program}{loose:List Str}{XP:(Str->Option Value)->Heap->Prop}{YP:World->Heap->Prop}{d:DefRec}
  (hn:l.most=some n) (hdf:d.params.defaults=[])
  (call:∀(w:World) (s₀ s₁:Shared) (mg mb:Str->Option Value) (fa:Addr) (o:Obj) (pm cd doc:Value) (a:Addr) (vs:List Value) (ns:List Int),
   Ground q loose [] XP w s₀ mg mb s₁.heap->YP w s₁.heap->
   s₁.heap.get? fa=some o->o.data = .func (docDef d.name d.params d.body d.scope pm cd doc)->s₁.heap.CodeRec cd d.name->mg d.name=some (.ref fa)->
   s₁.heap.get? a=some {cls:=.type "list",data:=.seq vs.toArray}->IntsAre vs ns->ns.length<=n->(∀x∈ns,Builtin.Int.intBits x<=1048576)->s₁.gens = #[]->
   codeAny (model l.prog w) callerA (.call (.ref fa) ⟨[.ref a],[]⟩) (fun r s'=>r = .ok (.ret (.bool true))/\OldK s₁.heap s'.heap/\s'.os=s₁.os/\AllBare s'.gens) s₁) :
  WalkO q loose XP YP l.row.toRowW d [] (fun f vs=>PySem.call f vs):=by
 intro w s₀ s₁ mg mb G Y fa o pm cd doc dV kV ho hd hcd hD hmg hg args vals as hpre hlay hrd hwl hlo;obtain rfl:dV = .none:=Dflts.none hD hdf;obtain rfl:kV = .none:=Dflts.noKw hD;obtain⟨a,vs,ns,rfl,rfl,hobj,hints,hlen⟩:=KF hn hpre hwl;have hbits:∀x∈ns,Builtin.Int.intBits x<=1048576:=by
  have hw:(WData.list (ns.map WData.int)).weight<=2^20:=(layableW_iff.mp (layW_cons hlay).1).2.2;intro x hx;exact Nat.le_trans (zZ ns x hx) hw
 refine enter_call (codeAny_mono (call w s₀ s₁ mg mb fa o pm cd doc a vs ns G Y ho (fd_plain hd) hcd hmg hobj hints hlen hbits hg) fun r s' hq=>?_);obtain⟨rfl,h2,h3,h4⟩:=hq;exact⟨.inl ⟨.bool true,.bool true,[],rfl,fun _=>rfl,.bool true,KA l _,fun _=>⟨List.Pairwise.nil,fun _ hm=>(nomatch hm)⟩⟩,h2,h3,h4⟩
end Att
namespace L2
open PySem PySem.Spec PyProof.Rows
theorem wR{l:PySem.W.OpenLaw}{n k:Nat}{q:Program}{loose:List Str}{XP:(Str->Option Value)->Heap->Prop}{YP:World->Heap->Prop}{d:DefRec}{K:Params->Frg}{CX:CXT}{sp:Frg->Sp}{x:Str}
  (hn:l.most=some n) (hn2:n<=sizeLine) (hdf:d.params.defaults=[]) (hr:Room k callerA)
  (hY:∀(w:World) (h:Heap),YP w h->(K w.params).In h)
  (F:∀(w:World) (mg:Str->Option Value) (fa:Addr) (h:Heap),(K w.params).In h->h.Ns mainGlobals mg->mg d.name=some (.ref fa)->
   ∃fd:FuncData,(∀(s:Shared) (u:Value),BindsTo s fd ⟨[u],[]⟩ [(x,u)])/\
    ∀base:Heap,(K w.params).In base->base.Ns mainGlobals mg->FnOk l.prog w (K w.params) mg base CX k fa fd [x] (sp (K w.params)))
  (hsp:∀(K:Frg) (H:Hp) (a:Addr) (ns:List Int),ns.length<=n->(∀x∈ns,Builtin.Int.intBits x<=1048576)->Only H->SqL K H a (ns.map V.int)->sp K [.ref a] H (fun v _=>v = .bl true) fun _ _ _=>False)
  (hCX:∀(H:Hp) (s:Shared) (e:Value) (s':Shared),CX [] H s (fun _ _ _=>False) e s'->False) :
  PySem.W.WalkO q loose XP YP l.row.toRowW d [] (fun f vs=>PySem.call f vs):=by
 refine Att.yE hn hdf fun w s₀ s₁ mg mb fa o pm cd doc a vs ns G Y ho hd hcd hmg hobj hints hlen hbits hg=>?_
 have KX:=hY w _ Y;obtain⟨fd,hb,hF⟩:=F w mg fa _ KX G.T.g hmg;exact wj KX G.T.g G.T.b G.T.builtins G.T.nolimit hg hobj hints (Nat.le_trans hlen hn2) hr hF hb (fun H hO hS=>hsp _ H a ns hlen hbits hO hS) fun H e s'=>hCX H s₁ e s'
section
variable{P:Program}{w:World}{K:Frg}{mg:Str->Option Value}{base:Heap}
end
theorem SP.nx{X:Cx}{pins:List (Addr×Obj)}{D:Ends}{R:St->Hp->Prop}(hR:∀σ' H',R σ' H'->D.nx σ' H'){f:Flow}{s:Shared}(h:SP X pins {D with nx:=R} f s):SP X pins D f s:=by
 cases f with
 | next=>obtain⟨σ',H',I,q⟩:=h;exact⟨σ',H',I,hR _ _ q⟩
 | brk=>exact h
 | cont=>exact h
 | ret u=>exact h
def tIfJ(c:TT)(t u:TS):TS:=fun D σ H=>∃R:St->Hp->Prop,(∀σ' H',R σ' H'->D.nx σ' H')/\tIfS c t u {D with nx:=R} σ H
theorem zR{X:Cx}{pos:Pos}{t u:TS}{c:Expr}{a b:List Stmt}{tc:TT}(hc:PT X c tc)(ha:PSs X a t)(hb:PSs X b u):PS X (.If c a b pos) (tIfJ tc t u):=by
 intro pins s σ H D I h;obtain⟨R,hR,h⟩:=h;exact thn (Jt hc ha hb pins s σ H _ I h) fun f s' q=>q.nx hR
open PySem
theorem jW:bootBuiltins "len"= some (.builtin "len"):=by decide +kernel
theorem K0:bootBuiltins "max"= some (.builtin "max"):=by decide +kernel
theorem K1:bootBuiltins "min"= some (.builtin "min"):=by decide +kernel
theorem Y0:bootBuiltins "sum"= some (.builtin "sum"):=by decide +kernel
theorem ZZ:bootBuiltins "isinstance"= some (.builtin "isinstance"):=by decide +kernel
theorem QZ:bootBuiltins "sorted"= some (.builtin "sorted"):=by decide +kernel
theorem YZ:bootBuiltins "int"= some (.type "int"):=by decide +kernel
theorem Zk:bootBuiltins "list"= some (.type "list"):=by decide +kernel
theorem QO:bootBuiltins "tuple"= some (.type "tuple"):=by decide +kernel
theorem yH:bootBuiltins "enumerate"= some (.type "enumerate"):=by decide +kernel
theorem wg(K:Frg)(t:Value)(h:(t==t)=true):PySem.W.kitOne K t t=some true:=by unfold PySem.W.kitOne;rw[if_pos h]
theorem Z1{K:Frg}:PySem.W.kitOne K (.type "tuple") (.type "tuple")=some true:=wg K _ (by decide +kernel)
section
variable{X:Cx}{tg:Expr}
theorem y3:SlR X (fun x lo hi H Q=>∃z,x = .str z/\z.length<=sizeLine/\Q (.str (Txt.slice z lo hi)) H):=by
 intro pins s σ H x v vl vu lo hi sl Q I rx hs pl pu h;obtain⟨z,rfl,hz,q⟩:=h;obtain⟨t,rfl⟩:=rx;refine⟨"str",_,F.slot_str_getitem.lookup,typeIs_str _ _ _,?_⟩;have fin:∀(lo hi:Option Int),Q (.str (Txt.slice z lo hi)) H->∀t' k,EP X pins σ Q (.str (Txt.slice z lo hi) t') {s with toks:=k}:=fun lo hi q t' k=>⟨.str _,H,I.tok _,⟨_,rfl⟩,q⟩
 cases pl with
 | none=>
  cases pu with
  | none=>exact wpAny_getItem_str_slice (l:=none) (u:=none) (st:=none) hs rfl (post_val_or_str ⟨Nat.le_trans (Txt.slice_le z _ _) hz,fin _ _ q⟩)
  | int j uj=>exact wpAny_getItem_str_slice (l:=none) (u:=some (j,uj)) (st:=none) hs rfl (post_val_or_str ⟨Nat.le_trans (Txt.slice_le z _ _) hz,fin _ _ q⟩)
 | int i ui=>
  cases pu with
  | none=>exact wpAny_getItem_str_slice (l:=some (i,ui)) (u:=none) (st:=none) hs rfl (post_val_or_str ⟨Nat.le_trans (Txt.slice_le z _ _) hz,fin _ _ q⟩)
  | int j uj=>exact wpAny_getItem_str_slice (l:=some (i,ui)) (u:=some (j,uj)) (st:=none) hs rfl (post_val_or_str ⟨Nat.le_trans (Txt.slice_le z _ _) hz,fin _ _ q⟩)
theorem kq{ys:List Str}:∀{us:List Value},Vals (ys.map V.str) us->StrsAre us ys:=by
 induction ys with
 | nil=>intro us r;rw[map_nil]at r;cases r;exact .nil
 | cons n ns ih=>
  intro us r;rw[map_cons]at r;cases r with
  | cons r1 r2=>
   obtain⟨t,e⟩:=r1;subst e;exact .cons n t (ih r2)
theorem Wl:MtR X "str.join" (fun x vs H Q=>∃(z:Str) (p:Addr) (ys:List Str),x = .str z/\vs=[.ref p]/\SqL X.K H p (ys.map V.str)/\(ys.map (·.length)).sum+ys.length*z.length<=16777216/\Q (.str (Txt.join z ys)) H):=by
 intro pins s σ H x vs v us Q I rx rv h;obtain⟨z,p,ys,rfl,rfl,hx,hz,q⟩:=h;obtain⟨t,rfl⟩:=rx;obtain⟨u,rfl,ru⟩:=vals1 rv;cases ru;obtain⟨its,r',pl,_⟩:=I.list hx;exact join_list pl.isList (by simpa using kq r') hz fun t' k=>⟨.str _,H,I.tok _,⟨_,rfl⟩,q⟩
theorem Kh:CallR X (.type "int") (fun xs H Q=>∃(x:Str) (n:Int),xs=[.str x]/\PySem.intText? x=some n/\x.length<=640/\Q (.int n) H):=by
 intro pins s σ H xs us Q I r h;obtain⟨x,n,rfl,e,hl,q⟩:=h;obtain⟨u,rfl,t,rfl⟩:=vals1 r;exact PySem.W.KIN.call_text e hl ⟨.int n,H,I.tok _,⟨_,rfl⟩,q⟩
theorem Ww:OpR X (binaryOp .Mult) (fun x y H Q=>∃(z:Str) (n:Int),x = .str z/\y = .int n/\MulOk z n/\Q (.str (Txt.mul z n)) H):=by
 intro pins s σ H x y v u Q I rx ry h;obtain⟨z,n,rfl,rfl,hk,q⟩:=h;obtain⟨t,rfl⟩:=rx;obtain⟨t',rfl⟩:=ry;exact SB.mul hk fun t' k=>⟨.str _,H,I.tok _,⟨_,rfl⟩,q⟩
theorem rd_str{z:Str}{R:Str->Prop}(h:R z):∃z',V.str z = .str z'/\R z':=⟨z,rfl,h⟩
end
section
variable{X:Cx}{K:Frg}
theorem Qu(e:X.K=K):IxR X (rIxL K):=by subst e;exact jp
theorem Zn(e:X.K=K):IxR X (rIxT K):=by subst e;exact jC
theorem ki(e:X.K=K):OpR X (compareOp .In) (rIn K false):=by subst e;exact zQ
theorem zb(e:X.K=K):OpR X (compareOp .NotIn) (rIn K true):=by subst e;exact yY
end
mutual
inductive DV(H:Hp):V->PyData->Prop
 | non:DV H .non .none
 | bl (b:Bool):DV H (.bl b) (.bool b)
 | int (i:Int):DV H (.int i) (.int i)
 | str (x:Str):DV H (.str x) (.str x)
 | lst {a:Addr} {xs:List V} {ds:List PyData}:H a=some (.lst xs)->DVs H xs ds->DV H (.ref a) (.list ds)
 | tup {a:Addr} {xs:List V} {ds:List PyData}:H a=some (.tup xs)->DVs H xs ds->DV H (.ref a) (.tuple ds)
inductive DVs(H:Hp):List V->List PyData->Prop
 | nil:DVs H [] []
 | cons {x:V} {d:PyData} {xs:List V} {ds:List PyData}:DV H x d->DVs H xs ds->DVs H (x::xs) (d::ds)
end
mutual
theorem DV.mono{H H':Hp}(k:Same H H'):∀{v:V} {d:PyData},DV H v d->DV H' v d
 | _,_,.non=>.non
 | _,_,.bl b=>.bl b
 | _,_,.int i=>.int i
 | _,_,.str x=>.str x
 | _,_,.lst e r=>.lst (k _ _ e) (DVs.mono k r)
 | _,_,.tup e r=>.tup (k _ _ e) (DVs.mono k r)
theorem DVs.mono{H H':Hp}(k:Same H H'):∀{vs:List V} {ds:List PyData},DVs H vs ds->DVs H' vs ds
 | _,_,.nil=>.nil
 | _,_,.cons a r=>.cons (DV.mono k a) (DVs.mono k r)
end
section
variable{X:Cx}
mutual
theorem QP{pins:List (Addr×Obj)}{s:Shared}{σ:St}{H:Hp}(I:Inv X pins σ H s):∀{v:V} {d:PyData} {u:Value},DV H v d->RelV v u->∃as,Reads s.heap u d as
 | _,_,_,.non,r=>⟨_,by cases r;exact Reads.none⟩
 | _,_,_,.bl b,r=>⟨_,by cases r;exact Reads.bool b⟩
 | _,_,_,.int i,r=>by obtain⟨t,rfl⟩:=r;exact⟨_,Reads.int i t⟩
 | _,_,_,.str x,r=>by obtain⟨t,rfl⟩:=r;exact⟨_,Reads.str x t⟩
 | _,_,_,.lst e q,r=>by
  cases r;obtain⟨_,its,c,rv,he⟩:=I.hok _ _ e;obtain⟨as,ra⟩:=zO I q rv;exact⟨_,reads_list_at he rfl rfl (by simpa using ra)⟩
 | _,_,_,.tup e q,r=>by
  cases r;obtain⟨its,rv,pl,_⟩:=I.tuple (SqT.of e);obtain⟨o,ho,hc,n,hd⟩:=pl;obtain⟨as,ra⟩:=zO I q rv;exact⟨_,reads_tuple_at ho hc hd (by simpa using ra)⟩
theorem zO{pins:List (Addr×Obj)}{s:Shared}{σ:St}{H:Hp}(I:Inv X pins σ H s):∀{vs:List V} {ds:List PyData} {us:List Value},DVs H vs ds->Vals vs us->∃as,ReadsAll s.heap us ds as
 | _,_,_,.nil,r=>by cases r;exact⟨_,ReadsAll.nil⟩
 | _,_,_,.cons a q,r=>by
  cases r with
  | cons r1 r2=>
   obtain⟨as,ra⟩:=QP I a r1;obtain⟨bs,rb⟩:=zO I q r2;exact⟨_,ReadsAll.cons ra rb⟩
end
theorem yX(hu:X.A.units+64<cLine):OpR X (compareOp .Eq) (fun x y H Q=>∃d e,DV H x d/\DV H y e/\SeqAt.shaped d=true/\SeqAt.shaped e=true/\Q (.bl (PyData.eqv d e)) H):=by
 intro pins s σ H x y v u Q I rx ry h;obtain⟨d,e,hd,he,sd,se,q⟩:=h;obtain⟨as,ra⟩:=QP I hd rx;obtain⟨bs,rb⟩:=QP I he ry;exact eq_dataH ra rb sd se hu ⟨.bl _,H,I,rfl,q⟩
theorem xv(hu:X.A.units+64<cLine):OpR X (compareOp .NotEq) (fun x y H Q=>∃d e,DV H x d/\DV H y e/\SeqAt.shaped d=true/\SeqAt.shaped e=true/\Q (.bl (!PyData.eqv d e)) H):=by
 intro pins s σ H x y v u Q I rx ry h;obtain⟨d,e,hd,he,sd,se,q⟩:=h;obtain⟨as,ra⟩:=QP I hd rx;obtain⟨bs,rb⟩:=QP I he ry;exact ne_dataH ra rb sd se hu ⟨.bl _,H,I,rfl,q⟩
theorem YV{us:List Value}:∀{ns:List Int},IntsAre us ns->Vals (ns.map V.int) us:=by
 induction us with
 | nil=>intro ns r;cases r;exact .nil
 | cons u us ih=>
  intro ns r;cases r with
  | cons n t r=>exact .cons ⟨t,rfl⟩ (ih r)
theorem QD:CallR X (.builtin "sorted") (fun xs H Q=>∃(p:Addr) (ns:List Int),xs=[.ref p]/\SqL X.K H p (ns.map V.int)/\ns.length<64/\∀(l:Addr) (ms:List Int),H l=none->ms.Perm ns->ms.Pairwise (·<=·)->Q (.ref l) (upd H l (.lst (ms.map V.int)))):=by
 intro pins s σ H xs us Q I r h;obtain⟨p,ns,rfl,hx,hn,q⟩:=h;obtain⟨u,rfl,rx⟩:=vals1 r;cases rx;obtain⟨its,r',pl,_⟩:=I.list hx;have hi:=intsAre_of r';have hlen:=r'.length;rw[length_map]at hlen;refine sorted_ints pl.isList hi (by omega) fun out ms ho hp hs=>?_
 obtain⟨e,he⟩:=sortedAll_at s.heap its out;refine⟨.ref (s.heap.objs.size+1),_,I.laid (t':=s.toks) (a:=s.heap.objs.size+1) (o:=.lst (ms.map V.int)) (fun b o hb=>sortedAll_old hb) (Nat.le_succ _) ?_,rfl,q _ ms (I.hok.fresh (Nat.le_succ _)) hp hs⟩;have hml:ms.length=ns.length:=hp.length_eq;exact⟨by rw[length_map,hml];exact Nat.le_trans (Nat.le_of_lt hn) (by decide),out.toList,e,YV ho,by simpa using he⟩
theorem Kk(hc:X.calm=true):CallR X (.builtin "max") (fun xs H Q=>∃(p:Addr) (ns:List Int),xs=[.ref p]/\SqL X.K H p (ns.map V.int)/\0<ns.length/\∀m∈ns,(∀a∈ns,a<=m)->Q (.int m) H):=by
 intro pins s σ H xs us Q I r h;obtain⟨p,ns,rfl,hx,hne,q⟩:=h;obtain⟨u,rfl,rx⟩:=vals1 r;cases rx;obtain⟨its,r',pl,_⟩:=I.list hx;have hi:=intsAre_of r';have hl:=pl.isList;obtain⟨xs,e⟩:=hi.allInts.items;have hns:ns=xs.toList.map (·.1):=by rw[<-hi.numsOf,<-nums_intItems,<-e]
 have hsz:0<xs.size:=by
  have h3:=hne;rw[hns,length_map,Array.length_toList]at h3;exact h3
 rw[e]at hl;refine max_intList (I.ok.hd hc) hl hsz fun v h' tk hv hk=>?_
 obtain⟨t,rfl⟩:=intItems_at hv;obtain⟨h1,h2⟩:=argBest_gt (numAt xs) (xs.size-1);refine⟨.int _,H,I.kept (t':=tk) hk,⟨_,rfl⟩,q _ ?_ fun a ha=>?_⟩
 ·rw[hns,numAt_eq];exact getD_mem (by rw[length_map,Array.length_toList];omega)
 ·rw[hns]at ha;obtain⟨j,hj,rfl⟩:=mem_getD ha;rw[length_map,Array.length_toList]at hj;rw[<-numAt_eq];exact h2 j (by omega)
end
section
variable{σ:St}{H:Hp}{Q:VK}
theorem rd_dget{td ty:TE}(h:td σ H fun x H1=>ty σ H1 fun y H2=>∃a v,x = .ref a/\DGet H2 a y (some v)/\Q v H2):tDGet td ty σ H Q:=h
theorem kX{trs:List (TE×TE)}(h:∀p,H p=none->tPairs trs σ (upd H p (.dK [])) fun ps H2=>H2 p=some (.dK [])/\∃kvs:List (Key×V),ps=kvs.map (fun kv=>(kV kv.1,kv.2))/\kvs.length<=15/\Q (.ref p) (upd H2 p (.dK (mergeK [] kvs)))):tDisp trs σ H Q:=h
theorem rd_prN{R:List (V×V)->Hp->Prop}(h:R [] H):tPairs [] σ H R:=h
theorem rd_prC{tk tv:TE}{r:List (TE×TE)}{R:List (V×V)->Hp->Prop}(h:tk σ H fun x H1=>tv σ H1 fun y H2=>tPairs r σ H2 fun ps H3=>R ((x,y)::ps) H3):tPairs ((tk,tv)::r) σ H R:=h
end
def TabK(K:Frg)(a:Addr)(D:List (Str×PyProof.Rows.KTD.Dat)):Prop:=PyProof.Rows.KTD.tabLook (PyProof.Rows.KTD.datLooks fun b=>K.lookup b) (fun b=>K.lookup b) a D=true
section
variable{X:Cx}
theorem xu:OpR X (compareOp .In) (fun x y H Q=>∃a k D,x = .str k/\y = .ref a/\TabK X.K a D/\Q (.bl (PyProof.Rows.KTD.inKeys k D)) H):=by
 intro pins s σ H x y v u Q I rx ry h;obtain⟨a,k,D,rfl,rfl,T,q⟩:=h;obtain⟨t,rfl⟩:=rx;cases ry;exact PyProof.Rows.KTD.in_text (h₀:=s.heap) ⟨PySem.W.kt_text_in I.kIn T,fun _ _ e=>e⟩ ⟨.bl _,H,I.tok _,rfl,q⟩
end
theorem Yg{K:Frg}{a:Addr}{xs:List V}{k:Nat}{ci:List Nat}{g:TG}{tf:TT}{te:TE}{σ:St}{H:Hp}{Z:Addr->List V->Hp->Prop}(Pv:Nat->List V->Hp->Prop)(h0:Pv 0 [] H)(hl:∀i ys H,i<=xs.length->Pv i ys H->SqT K H a xs)
  (hs:∀i x ys H,xs[i]?=some x->Pv i ys H->g x (capS k ci σ) H fun σ2 H2=>tf σ2 H2 fun b H3=>if b=true then te σ2 H3 fun v H4=>ys.length<sizeLine/\Pv (i+1) (ys++[v]) H4 else Pv (i+1) ys H3)
  (hd:∀ys H,Pv xs.length ys H->ys.length<=sizeLine/\∀p,H p=none->Z p ys H) :
  ∃W:Nat->Nat->List V->Hp->Prop,(∃m,W 0 m [] H)/\∀i m ys H,W i m ys H->
   ((Itt K a).stop i H/\ys.length<=sizeLine/\∀p,H p=none->Z p ys H)\/
   ((Itt K a).go i H/\∃N:List V->Hp->Prop,(∀ys' H',N ys' H'->∃m',m'<m/\W (i+1) m' ys' H')/\∀x H',(Itt K a).yld i H x H'->g x (capS k ci σ) H' fun σ2 H2=>tf σ2 H2 fun b H3=>
    if b=true then te σ2 H3 fun v H4=>ys.length<sizeLine/\N (ys++[v]) H4 else N ys H3):=by
 refine⟨fun i m ys H=>m=xs.length-i/\i<=xs.length/\Pv i ys H,⟨xs.length,by simp,Nat.zero_le _,h0⟩,?_⟩;rintro i m ys H ⟨rfl,hi,p⟩;have q:=hl i ys H hi p;by_cases hlt:i<xs.length
 ·refine .inr ⟨⟨xs,xs[i],q,by simp[hlt]⟩,Pv (i+1),fun ys' H' p'=>⟨xs.length-(i+1),by omega,rfl,hlt,p'⟩,fun x H' y=>?_⟩;obtain⟨e,y⟩:=y;subst e;exact hs i x ys _ (y xs q) p
 ·have e:i=xs.length:=by omega
  subst e;exact .inl ⟨⟨xs,q,Nat.le_refl _⟩,hd ys H p⟩
theorem rd_iTup{K:Frg}{te:TE}{σ:St}{H:Hp}{R:It->Hp->Prop}(h:te σ H fun x H1=>∃a,x = .ref a/\(∃xs,SqT K H1 a xs)/\R (Itt K a) H1):iTup K te σ H R:=h
theorem ZQ{K:Frg}{i j:Nat}{a:Addr}{x y:V}{σ:St}{H:Hp}{R:St->Hp->Prop}(e:SqT K H a [x,y])(h:gName i x σ H fun σ' H'=>gName j y σ' H' R):gTup K 2 (gCons (gName i) (gCons (gName j) gNil)) (.ref a) σ H R:=
 ⟨a,[x,y],rfl,e,rfl,x,[y],rfl,y,[],rfl,rfl,h⟩
theorem rd_dnew{σ:St}{H:Hp}{Q:VK}(h:∀p,H p=none->Q (.ref p) (upd H p (.dK []))):tDNewK σ H Q:=h
theorem rd_dput{td ty tv:TE}{σ:St}{H:Hp}{D:Ends}(h:tv σ H fun v H1=>td σ H1 fun x H2=>ty σ H2 fun y H3=>∃a H4,x = .ref a/\DPut H3 a y v H4/\D.nx σ H4):sDPut td ty tv D σ H:=h
section
variable{X:Cx}{pins:List (Addr×Obj)}{σ:St}{H:Hp}{s:Shared}{h':Heap}
theorem Inv.turnedL{t':Nat}{ch:List Addr}(I:Inv X pins σ H s)(hf:∀b∈ch,FpOk X pins H b)(k:∀b o,b∉ch->s.heap.get? b=some o->h'.get? b=some o):Inv X pins σ H {s with heap:=h',toks:=t'}:=by
 have nit:∀b u,H b=some u->b∉ch:=fun b u e z=>by rw[(hf b z).1]at e;cases e
 refine I.step (g':=s.gens) (d':=s.drawn) (ch:=ch) (fun b hb=>?_) (fun b o _ _ hc e _=>k b o hc e) (fun b o _ _ hc e _=>⟨o.slots,k b o hc e⟩) (fun _ _ _ _ n=>n)
  (fun b o hc e=>⟨o,k b o hc e⟩) (fun _ _ e=>e) (fun _ _ _ e=>e) (fun b ps e=>⟨#[],by rw[e];simp⟩) (fun m hm=>?_) (fun b u e=>?_) I.bare
 ·obtain⟨_,f1,_,f3,f4,f5⟩:=hf b hb;exact⟨f3,f1,f4,f5⟩
 ·obtain⟨o,es,ep,ho,r⟩:=hm;exact⟨o,es,ep,k _ o (fun z=>(hf _ z).2.1 rfl) ho,r⟩
 ·refine(I.hok b u e).stay (fun c v hc q=>k c v ?_ q) (fun _ q=>q) fun _ _ q=>q
  rcases hc with z | z
  ·rw[z];exact nit b u e
  ·exact nit c _ z
theorem Inv.pair{t':Nat}{ch:List Addr}{x y:V}{u v:Value}(I:Inv X pins σ H s)(hf:∀b∈ch,FpOk X pins H b)(hl:∀b∈ch,b<s.heap.objs.size)(rx:RelV x u)(ry:RelV y v)
  (hT:h'.get? s.heap.objs.size=some {cls:=.type "tuple",data:=.seq #[u,v]}) (k:∀b o,b∉ch->s.heap.get? b=some o->h'.get? b=some o) :
  Inv X pins σ (upd H s.heap.objs.size (.tup [x,y])) {s with heap:=h',toks:=t'}/\∀b∈ch,FpOk X pins (upd H s.heap.objs.size (.tup [x,y])) b:=by
 have f:∀b∈ch,FpOk X pins (upd H s.heap.objs.size (.tup [x,y])) b:=fun b hb=>⟨(jk (Nat.ne_of_lt (hl b hb))).trans (hf b hb).1,(hf b hb).2⟩
 have I1:Inv X pins σ (upd H s.heap.objs.size (.tup [x,y])) {s with heap:=s.heap.push {cls:=.type "tuple",data:=.seq #[u,v]},toks:=t'}:=
  I.laid (t':=t') (fun b o e=>Heap.get?_push_of_some _ e) (Nat.le_refl _) (show ObjOk X.prog X.w _ _ _ (.tup [x,y])from⟨(by show 2<=sizeLine;decide),[u,v],.cons rx (.cons ry .nil),IsTup.new _ _⟩)
 refine⟨I1.turnedL (h':=h') (t':=t') f fun b o hb e=>?_,f⟩;rcases Heap.get?_push_cases e with⟨rfl,rfl⟩ | e
 ·exact hT
 ·exact k b o hb e
end
def Ite(K:Frg)(a:Addr):It:=
 ⟨fun i H=>∃xs x,SqL K H a xs/\xs[i]?=some x,fun i H x H'=>∃T v,x = .ref T/\H T=none/\H'=upd H T (.tup [.int i,v])/\∀xs,SqL K H a xs->xs[i]?=some v,fun i H=>∃xs,SqL K H a xs/\xs.length<=i⟩
theorem KM{P:Program}{w:World}{K:Frg}{elts:List Expr}{k:Nat}{pos:Pos}(a e it:Addr)(hne:e≠it) :
  Turn P w K (.Tuple elts k pos) (Ite K a) [e,it] e (fun i h=>(∃old,IsEnum h e it ((i:Nat):Int) old)/\h.IsListIter it a i) where
 mem:=by simp
 obj:=fun i h st b hb=>by
  rcases(by simpa using hb:b=e\/b=it)with rfl | rfl
  ·obtain⟨old,he⟩:=st.1;exact⟨_,he,fun v z=>by cases z⟩
  ·obtain⟨o,e,c,d⟩:=st.2;exact⟨o,e,fun v z=>by rw[d]at z;cases z⟩
 keep:=fun i h h' st k=>⟨let ⟨old,he⟩:=st.1;⟨old,k e (by simp) _ he⟩,st.2.at fun o q=>k it (by simp) o q⟩
 item:=by
  intro X hP hw hK hc i pins s σ H E I hf st hg;subst hP hw hK;obtain⟨xs,x,hq,hx⟩:=hg;obtain⟨its,rv,p,hz⟩:=I.list hq;obtain⟨u,hu,ru⟩:=rv.get hx;obtain⟨⟨old,he⟩,hit⟩:=st;have le:e<s.heap.objs.size:=Heap.lt_size he;have li:it<s.heap.objs.size:=by obtain⟨o,q,_⟩:=id hit;exact Heap.lt_size q
  refine wpAny_pyNext_enum_item he hit p.isList (x:=u) (by simpa using hu) hne fun h' ho hit' hT hsz hk=>?_
  obtain⟨I1,f1⟩:=I.pair (t':=s.toks+1) (ch:=[e,it]) (x:=.int i) (y:=x) hf (fun b hb=>by rcases(by simpa using hb:b=e\/b=it)with rfl | rfl<;>assumption) ⟨s.toks,rfl⟩ ru hT
   (fun b o hb q=>hk b o (fun z=>hb (by simp[z])) (fun z=>hb (by simp[z])) q)
  refine⟨_,rfl,wpAny_letOwnedTupleGo_enum ho fun h2 he2 sb=>?_⟩;have I2:=I1.turnedL (h':=h2) (t':=s.toks+1) (ch:=[e,it]) f1 fun b o hb q=>(sb.2 b fun z=>hb (by simp[z])).trans q
  exact⟨.ref s.heap.objs.size,_,I2,rfl,⟨_,x,rfl,I.hok.fresh (Nat.le_refl _),rfl,fun ys hy=>by rw[I.list_inj hy hq];exact hx⟩,
   ⟨⟨u,by simpa using he2⟩,hit'.at fun o q=>(sb.2 it hne.symm).trans q⟩,fun b hb=>(f1 b hb).1⟩
 done:=by
  intro X hP hw hK hc i pins s σ H E I hf st hg;subst hP hw hK;obtain⟨xs,hq,hx⟩:=hg;obtain⟨its,rv,p,hz⟩:=I.list hq;obtain⟨⟨old,he⟩,hit⟩:=st;have hl:=rv.length;exact wpAny_pyNext_enum_end (I.ok.hd hc) he hit p.isList (by simp;omega) fun h' eb=>⟨rfl,I.turnedL (t':=s.toks) (ch:=[e,it]) hf fun b o hb q=>eb b o (fun z=>hb (by simp[z])) q⟩
 self:=fun _ _ _ _ _ st h=>let ⟨_,he⟩:=st.1;wpAny_pyIter_enum he h
def iEnum(K:Frg)(ta:TA):TI:=fun σ H R=>ta σ H fun vs H1=>∃a xs,vs=[.ref a]/\SqL K H1 a xs/\R (Ite K a) H1
theorem kT{X:Cx}{a:Expr}{ta:TA}{elts:List Expr}{k:Nat}{p pos pos':Pos}(hg:Gl X "enumerate")(hm:X.mg "enumerate"= none)(ha:PA X [a] ta)(hs:starEach [a] X.env=[(false,eval a X.env)]:=by rfl) :
  PI X (.Tuple elts k pos') (.Call (.Name "enumerate" p) [a] [] pos) (iEnum X.K ta):=by
 intro pins s σ H R I h;refine Call_ (QE I hg hm yH (PyProof.Rows.callWith_type1 (thn (ha pos pins s σ H _ I h) fun us s1 ⟨vs,H1,I1,r1,q1⟩=>?_) hs rfl));obtain⟨b,xs,rfl,hq,q⟩:=q1;obtain⟨u,rfl,ru⟩:=vals1 r1;cases ru;obtain⟨its,rv,p,hz⟩:=I1.list hq;refine call_enumerate_list p.isList fun h' he hit hsz hk=>?_
 refine wpAny_pyIter_enum he ?_;refine⟨s1.heap.objs.size+1,[s1.heap.objs.size+1,s1.heap.objs.size],_,_,H1,rfl,I1.kept (t':=s1.toks) hk,KM b _ _ (Nat.succ_ne_self _),⟨⟨_,by simpa using he⟩,hit⟩,fun c hc=>?_,q⟩;rcases(by simpa using hc:c=s1.heap.objs.size+1\/c=s1.heap.objs.size)with rfl | rfl
 ·exact I1.fpOk (Nat.le_succ _) (I1.hok.fresh (Nat.le_succ _))
 ·exact I1.fpOk (Nat.le_refl _) (I1.hok.fresh (Nat.le_refl _))
theorem Yk{K:Frg}{a:Addr}{xs:List V}{g:TG}{tb:TS}{D:Ends}{σ:St}{H:Hp}(Pv:Nat->St->Hp->Prop)(h0:Pv 0 σ H)(hl:∀i σ H,i<=xs.length->Pv i σ H->SqL K H a xs)
  (hs:∀i v σ H T H',xs[i]?=some v->Pv i σ H->Same H H'->H' T=some (.tup [.int i,v])->g (.ref T) σ H' fun σ2 H2=>tb {D with nx:=Pv (i+1),ct:=Pv (i+1),bk:=D.nx} σ2 H2) (hd:∀σ H,Pv xs.length σ H->D.nx σ H) :
  ∃W:Nat->Nat->St->Hp->Prop,(∃m,W 0 m σ H)/\∀i m σ H,W i m σ H->
   ((Ite K a).stop i H/\D.nx σ H)\/((Ite K a).go i H/\∃N:St->Hp->Prop,(∀σ' H',N σ' H'->∃m',m'<m/\W (i+1) m' σ' H')/\∀x H',(Ite K a).yld i H x H'->g x σ H' fun σ2 H2=>tb {D with nx:=N,ct:=N,bk:=D.nx} σ2 H2):=by
 refine⟨fun i m σ H=>m=xs.length-i/\i<=xs.length/\Pv i σ H,⟨xs.length,by simp,Nat.zero_le _,h0⟩,?_⟩;rintro i m σ H ⟨rfl,hi,p⟩;have q:=hl i σ H hi p;by_cases hlt:i<xs.length
 ·refine .inr ⟨⟨xs,xs[i],q,by simp[hlt]⟩,Pv (i+1),fun σ' H' p'=>⟨xs.length-(i+1),by omega,rfl,hlt,p'⟩,fun x H' y=>?_⟩;obtain⟨T,v,rfl,hT,e,y⟩:=y;exact hs i v σ H T H' (y xs q) p (fun b o h=>by rw[e,jk (je h hT)];exact h) (by rw[e];exact jf)
 ·have e:i=xs.length:=by omega
  subst e;exact .inl ⟨⟨xs,q,Nat.le_refl _⟩,hd σ H p⟩
theorem rd_iEnum{K:Frg}{ta:TA}{σ:St}{H:Hp}{R:It->Hp->Prop}(h:ta σ H fun vs H1=>∃a xs,vs=[.ref a]/\SqL K H1 a xs/\R (Ite K a) H1):iEnum K ta σ H R:=h
section
variable{prog:Program}{w:World}{A:Around}{E:Value->Shared->Prop}{s:Shared}
variable{K:Type}[DecidableEq K]{knd:KeyKind prog w K}
end
open PySem PySem.W PyProof.Rows
section
variable{n:Nat}{key:Nat->Int}{p:Array Nat}
end
section
variable{prog:Program}{w:World}{A:Around}{E:Value->Shared->Prop}{s:Shared}
end
open PySem PySem.Spec PySem.W PyProof.Rows
section
variable{X:Cx}{pins:List (Addr×Obj)}{σ:St}{H:Hp}{s:Shared}
def NewA(X:Cx)(pins:List (Addr×Obj))(T:Addr):Prop:=X.s₀.heap.objs.size<=T/\T≠X.env.locals/\(∀x c,X.env.cells.lookup x=some c->c≠T)/\∀p∈X.pn++pins,p.1≠T
theorem ObjOk.obj{P:Program}{w:World}{h:Heap}{a:Addr}{o:HO}(x:ObjOk P w H h a o):∃u,h.get? a=some u:=by
 cases o with
 | lst xs=>obtain⟨_,_,_,_,e⟩:=x;exact⟨_,e⟩
 | tup xs=>obtain⟨_,_,_,u,e,_⟩:=x;exact⟨u,e⟩
 | dK kvs=>obtain⟨_,_,_,_,u,_,_,e,_⟩:=x;exact⟨u,e⟩
 | dT kvs=>obtain⟨_,_,_,_,u,_,_,e,_⟩:=x;exact⟨u,e⟩
 | set S n=>obtain⟨u,_,_,_,e,_⟩:=x;exact⟨u,e⟩
 | ins C dx fs=>obtain⟨_,_,_,e,_⟩:=x;exact⟨_,e⟩
 | own y=>exact x
 | xd fs=>obtain⟨_,⟨u,_,_,e,_⟩,_⟩:=x;exact⟨u,e⟩
 | rng lo hi=>obtain⟨_,_,_,e⟩:=x;exact⟨_,e⟩
 | frz u v=>exact⟨_,x.1⟩
 | tbl ps=>exact⟨_,x⟩
 | met f y=>exact⟨_,x⟩
 | ext φ=>exact x.2.1
theorem Inv.none_at{h1:Heap}(I:Inv X pins σ H s)(hk:∀b o,s.heap.get? b=some o->h1.get? b=some o):H h1.objs.size=none:=by
 cases e:H h1.objs.size with
 | none=>rfl
 | some u=>
  obtain⟨v,q⟩:=(I.hok _ _ e).obj;exact absurd (Heap.lt_size (hk _ _ q)) (Nat.lt_irrefl _)
theorem Inv.newB{h1:Heap}(I:Inv X pins σ H s)(hk:∀b o,s.heap.get? b=some o->h1.get? b=some o):NewA X pins h1.objs.size:=by
 have lt:∀b o,s.heap.get? b=some o->b<h1.objs.size:=fun b o e=>Heap.lt_size (hk b o e)
 obtain⟨m,⟨o,_,_,ho,_⟩,_⟩:=I.loc;have hL:=lt _ _ ho;refine⟨Nat.le_of_lt (Nat.lt_of_le_of_lt I.ok.above hL),Nat.ne_of_gt hL,fun x c e=>?_,fun p hp=>Nat.ne_of_lt (lt _ _ (I.pin p hp).1)⟩;obtain⟨v,o,ho,_⟩:=I.cell x c e;exact Nat.ne_of_lt (lt _ _ ho)
theorem Inv.track{T:Addr}{o:HO}(I:Inv X pins σ H s)(h0:H T=none)(hn:NewA X pins T)(new:ObjOk X.prog X.w (upd H T o) s.heap T o):Inv X pins σ (upd H T o) s:=by
 have ne:∀b u,H b=some u->b≠T:=fun b u e z=>by rw[z,h0]at e;cases e
 refine I.step (h':=s.heap) (H':=upd H T o) (g':=s.gens) (d':=s.drawn) (t':=s.toks) (ch:=[T]) (fun b hb=>?_) (fun b o _ _ _ e _=>e) (fun b o _ _ _ e _=>⟨o.slots,e⟩) (fun b u hb _ n=>?_) (fun b u _ e=>⟨u,e⟩)
  (fun b xs e=>(jk (ne _ _ e)).trans e) (fun b u v e=>(jk (ne _ _ e)).trans e) (fun b ps e=>⟨#[],by rw[jk (ne _ _ e),e];simp⟩) (fun m hm=>hm) (fun b u e=>?_) I.bare
 ·have e:b=T:=by simpa using hb
  subst e;exact⟨.inr hn.1,hn.2.1,hn.2.2.1,hn.2.2.2⟩
 ·exact(jk fun z=>hb (by simp[z])).trans n
 ·by_cases z:b=T
  ·subst z;rw[jf]at e;cases e;exact new
  ·rw[jk z]at e;exact(I.hok b u e).stay (fun c v _ q=>q) (fun c q=>(jk (ne _ _ q)).trans q) fun c ys q=>(jk (ne _ _ q)).trans q
end
section
variable{X:Cx}
theorem KV.get{κ:Type}:∀{kvs:List (κ×V)} {vs:List (κ×Value)} {i:Nat} {p:κ×V},KV kvs vs->kvs[i]?=some p->∃q,vs[i]?=some q/\p.1=q.1/\RelV p.2 q.2
 | _,_,_,_,.nil,e=>by simp at e
 | _,_,0,_,.cons r _,e=>by simp at e;subst e;exact⟨_,rfl,r⟩
 | _,_,i+1,p,.cons _ t,e=>by
  obtain⟨q,h1,h2⟩:=KV.get (i:=i) (p:=p) t (by simpa using e);exact⟨q,by simpa using h1,h2⟩
end
section
variable{X:Cx}
end
theorem kI{H:Hp}:∀(ks:List Int),DVs H (ks.map V.int) (ks.map PyData.int)
 | []=>.nil
 | k::r=>.cons (.int k) (kI r)
theorem Wc(ks:List Int):PyData.eqv (.list (ks.map PyData.int)) (.list [])=decide (ks=[]):=by
 cases ks<;>simp[PyData.eqv,PyData.eqvAll]
section
variable{X:Cx}
end
section
variable{X:Cx}{e:Expr}{te:TE}
end
section
variable{prog:Program}{w:World}{A:Around}{E:Value->Shared->Prop}{s:Shared}
end
def Itd(lo:Int)(n:Nat):It:=⟨fun i _=>i<n,fun i H x H'=>H'=H/\x = .int (lo-i),fun i _=>n<=i⟩
theorem YU{P:Program}{w:World}{K:Frg}{tg:Expr}(it:Addr)(lo:Int)(n:Nat):Turn P w K tg (Itd lo n) [it] it (fun i h=>IsRangeIter h it (lo+(i:Nat)*(-1)) ((n:Int)-(i:Nat)) (-1)) where
 mem:=by simp
 obj:=fun i h st b hb=>by
  have e:b=it:=by simpa using hb
  subst e;exact⟨_,st,fun v z=>by
   have z':Data.fields _=Data.cell v:=z;cases z'⟩
 keep:=fun i h h' st k=>k it (by simp) _ st
 item:=by
  intro X hP hw hK hc i pins s σ H E I hf st hg;subst hP hw hK;obtain⟨f0,f1,f2,f3,f4,f5⟩:=hf it (by simp);have W:=Walks.range (prog:=X.prog) (w:=X.w) (I.ok.hd hc) it lo (-1) n;refine W.item i s _ _ hg st fun v h' tk hv st' kk=>?_
  obtain⟨t,rfl⟩:=hv;have I1:Inv X pins σ H {s with heap:=h',toks:=tk}:=I.turned (fun b o hb e=>kk b o (by simpa using hb) e) f0 f1 f3 f4 f5;refine⟨_,rfl,Yn (s:={s with heap:=h',toks:=tk}) (n:="range_iterator") st' rfl rfl (by decide) ⟨.int (lo-i),H,I1,⟨t,?_⟩,⟨rfl,rfl⟩,st',fun b hb=>(hf b hb).1⟩⟩;rw[show lo+(i:Int)*(-1)=lo-i by omega]
 done:=by
  intro X hP hw hK hc i pins s σ H E I hf st hg;subst hP hw hK;obtain⟨f0,f1,f2,f3,f4,f5⟩:=hf it (by simp);exact wpAny_pyNext_range_end (I.ok.hd hc) st (by have:n<=i:=hg;omega) fun h' eb=>⟨rfl,I.turned (t':=s.toks) (fun b o hb e=>eb b o hb e) f0 f1 f3 f4 f5⟩
 self:=fun _ _ _ _ _ st h=>wpAny_pyIter_rangeiter st h
section
variable{X:Cx}{tg:Expr}
theorem zc(a b:Int):Builtin.Range.rangeSize a b (-1)=if b<a then a-b else 0:=by
 unfold Builtin.Range.rangeSize;simp only[show¬((-1:Int)>0) by decide,if_false,show(- -1:Int)=1 by decide,Int.ediv_one];split<;>omega
theorem KJ{a b:Int}(h1 : -(2^61)<=a)(h2:a<2^61)(h3 : -(2^61)<=b)(h4:b<2^61):Builtin.Range.small a b (-1)=true:=by
 have f:∀x:Int,-(2^62)<=x->x<2^62->Builtin.Range.rangeFitsLong x=true:=fun x h1 h2=>by
  unfold Builtin.Range.rangeFitsLong;simp;omega
 unfold Builtin.Range.small;rw[zc];have g : -(2^62)<=(if b<a then a-b else 0)/\(if b<a then a-b else 0)<2^62:=by split<;>omega
 rw[f a (by omega) (by omega),f b (by omega) (by omega),f (-1) (by decide) (by decide),f _ g.1 g.2,if_neg (show¬((-1:Int)>0) by decide),f (b+(-1+1)) (by omega) (by omega)];simp
theorem KC{pins:List (Addr×Obj)}{σ:St}{H:Hp}{s:Shared}{R:It->Hp->Prop}{E:Value->Shared->Prop}{lo hi:Int}{t u v:Tok}{tk:Nat}(I:Inv X pins σ H s)(h1 : -(2^61)<=lo)(h2:lo<2^61)(h3 : -(2^61)<=hi)(h4:hi<2^61)
  (q:R (Itd lo (lo-hi).toNat) H):wpAny (model X.prog X.w) X.A (pyIter (.ref s.heap.objs.size)) (PIE X pins σ tg R) E {s with heap:=s.heap.push {cls:=.type "range",data:=.fields #[.int lo t,.int hi u,.int (-1) v]},toks:=tk}:=by
 refine wpAny_pyIter_range (IsRange.new ..) (KJ h1 h2 h3 h4) ?_;have I1:Inv X pins σ H {s with heap:=s.heap.push {cls:=.type "range",data:=.fields #[.int lo t,.int hi u,.int (-1) v]},toks:=tk}:=I.kept fun b o e=>Heap.get?_push_of_some _ e
 refine⟨(s.heap.push {cls:=.type "range",data:=.fields #[.int lo t,.int hi u,.int (-1) v]}).objs.size,[(s.heap.push {cls:=.type "range",data:=.fields #[.int lo t,.int hi u,.int (-1) v]}).objs.size],_,_,H,rfl,
  I1.kept (t':=tk) fun b o e=>Heap.get?_push_of_some _ e,YU _ lo (lo-hi).toNat,?_,fun b hb=>?_,q⟩
 ·have e1:lo+((0:Nat):Int)*(-1)=lo:=by simp
  have e2:(((lo-hi).toNat:Nat):Int)-((0:Nat):Int)=Builtin.Range.rangeSize lo hi (-1):=by rw[zc];split<;>omega
  show IsRangeIter _ _ (lo+((0:Nat):Int)*(-1)) ((((lo-hi).toNat:Nat):Int)-((0:Nat):Int)) (-1);rw[e1,e2];exact Heap.get?_push_size _ rfl
 ·have e:b=(s.heap.push {cls:=.type "range",data:=.fields #[.int lo t,.int hi u,.int (-1) v]}).objs.size:=by simpa using hb
  subst e;exact I1.fpOk (Nat.le_refl _) (I1.hok.fresh (Nat.le_refl _))
def iRngD(ta:TA):TI:=fun σ H R=>ta σ H fun vs H1=>∃i j:Int,vs=[.int i,.int j,.int (-1)]/\(-(2^61)<=i/\i<2^61/\-(2^61)<=j/\j<2^61)/\R (Itd i (i-j).toNat) H1
theorem Ky{a b c:Expr}{ta:TA}{p pos:Pos}(hg:Gl X "range")(hm:X.mg "range"= none)(ha:PA X [a,b,c] ta)(hs:starEach [a,b,c] X.env=(false,eval a X.env)::starEach [b,c] X.env:=by rfl)(hs2:(backTo pos (starEach [b,c] X.env)).any (·.1)=false:=by rfl) :
  PI X tg (.Call (.Name "range" p) [a,b,c] [] pos) (iRngD ta):=by
 intro pins s σ H R I h;refine Call_ (QE I hg hm boot_range (PyProof.Rows.callWith_type1 (thn (ha pos pins s σ H _ I h) fun us s1 ⟨vs,H1,I1,r1,q1⟩=>?_) hs hs2));obtain⟨i,j,e,⟨q1,q2,q3,q4⟩,q⟩:=q1;subst e;cases r1 with
 | cons r rr=>
  cases rr with
  | cons r' rr=>
   cases rr with
   | cons r'' rr=>
    cases rr;obtain⟨t,rfl⟩:=r;obtain⟨t',rfl⟩:=r';obtain⟨t'',rfl⟩:=r'';exact call_range_3 (by decide) (KC I1 q1 q2 q3 q4 q) (.inl (PyProof.noPylong_small (by omega)))
end
theorem rd_rngD{ta:TA}{σ:St}{H:Hp}{R:It->Hp->Prop}(h:ta σ H fun vs H1=>∃i j:Int,vs=[.int i,.int j,.int (-1)]/\(-(2^61)<=i/\i<2^61/\-(2^61)<=j/\j<2^61)/\R (Itd i (i-j).toNat) H1):iRngD ta σ H R:=h
theorem wc{lo:Int}{n:Nat}{g:TG}{tb:TS}{D:Ends}{σ:St}{H:Hp}(Pv:Nat->St->Hp->Prop)(h0:Pv 0 σ H)(hs:∀i σ H,i<n->Pv i σ H->g (.int (lo-i)) σ H fun σ2 H2=>tb {D with nx:=Pv (i+1),ct:=Pv (i+1),bk:=D.nx} σ2 H2)(hd:∀σ H,Pv n σ H->D.nx σ H) :
  ∃W:Nat->Nat->St->Hp->Prop,(∃m,W 0 m σ H)/\∀i m σ H,W i m σ H->
   ((Itd lo n).stop i H/\D.nx σ H)\/((Itd lo n).go i H/\∃N:St->Hp->Prop,(∀σ' H',N σ' H'->∃m',m'<m/\W (i+1) m' σ' H')/\∀x H',(Itd lo n).yld i H x H'->g x σ H' fun σ2 H2=>tb {D with nx:=N,ct:=N,bk:=D.nx} σ2 H2):=by
 refine⟨fun i m σ H=>m=n-i/\i<=n/\Pv i σ H,⟨n,by simp,Nat.zero_le _,h0⟩,?_⟩;rintro i m σ H ⟨rfl,hi,p⟩;by_cases hlt:i<n
 ·refine .inr ⟨hlt,Pv (i+1),fun σ' H' p'=>⟨n-(i+1),by omega,rfl,hlt,p'⟩,fun x H' y=>?_⟩;obtain⟨e,y⟩:=y;subst e y;exact hs i σ _ hlt p
 ·have e:i=n:=by omega
  subst e;exact .inl ⟨Nat.le_refl _,hd σ H p⟩
section
variable{X:Cx}
end
section
variable{prog:Program}{w:World}{A:Around}{E:Value->Shared->Prop}{s:Shared}
end
section
variable{X:Cx}{pos:Pos}
end
section
variable{σ:St}{H:Hp}{D:Ends}{Q:VK}{ta tb te:TE}
theorem rd_seq{t u:TS}(h:t {D with nx:=u D} σ H):tSeq t u D σ H:=h
theorem rd_asg{g:TG}(h:te σ H fun x H1=>g x σ H1 D.nx):tAsg te g D σ H:=h
theorem rd_v0{v:V}{r:St}(h:Q v H):tVar 0 (some v::r) H Q:=⟨v,rfl,h⟩
theorem rd_n0{a0:Option V}{v:V}{r:St}{R:St->Hp->Prop}(h:R (some v::r) H):gName 0 v (a0::r) H R:=h
theorem rd_v1{a0:Option V}{v:V}{r:St}(h:Q v H):tVar 1 (a0::some v::r) H Q:=⟨v,rfl,h⟩
theorem rd_n1{a0 a1:Option V}{v:V}{r:St}{R:St->Hp->Prop}(h:R (a0::some v::r) H):gName 1 v (a0::a1::r) H R:=h
theorem rd_v2{a0 a1:Option V}{v:V}{r:St}(h:Q v H):tVar 2 (a0::a1::some v::r) H Q:=⟨v,rfl,h⟩
theorem rd_n2{a0 a1 a2:Option V}{v:V}{r:St}{R:St->Hp->Prop}(h:R (a0::a1::some v::r) H):gName 2 v (a0::a1::a2::r) H R:=h
theorem rd_v3{a0 a1 a2:Option V}{v:V}{r:St}(h:Q v H):tVar 3 (a0::a1::a2::some v::r) H Q:=⟨v,rfl,h⟩
theorem rd_n3{a0 a1 a2 a3:Option V}{v:V}{r:St}{R:St->Hp->Prop}(h:R (a0::a1::a2::some v::r) H):gName 3 v (a0::a1::a2::a3::r) H R:=h
theorem rd_v4{a0 a1 a2 a3:Option V}{v:V}{r:St}(h:Q v H):tVar 4 (a0::a1::a2::a3::some v::r) H Q:=⟨v,rfl,h⟩
theorem rd_n4{a0 a1 a2 a3 a4:Option V}{v:V}{r:St}{R:St->Hp->Prop}(h:R (a0::a1::a2::a3::some v::r) H):gName 4 v (a0::a1::a2::a3::a4::r) H R:=h
theorem rd_v5{a0 a1 a2 a3 a4:Option V}{v:V}{r:St}(h:Q v H):tVar 5 (a0::a1::a2::a3::a4::some v::r) H Q:=⟨v,rfl,h⟩
theorem rd_n5{a0 a1 a2 a3 a4 a5:Option V}{v:V}{r:St}{R:St->Hp->Prop}(h:R (a0::a1::a2::a3::a4::some v::r) H):gName 5 v (a0::a1::a2::a3::a4::a5::r) H R:=h
theorem rd_v6{a0 a1 a2 a3 a4 a5:Option V}{v:V}{r:St}(h:Q v H):tVar 6 (a0::a1::a2::a3::a4::a5::some v::r) H Q:=⟨v,rfl,h⟩
theorem rd_n6{a0 a1 a2 a3 a4 a5 a6:Option V}{v:V}{r:St}{R:St->Hp->Prop}(h:R (a0::a1::a2::a3::a4::a5::some v::r) H):gName 6 v (a0::a1::a2::a3::a4::a5::a6::r) H R:=h
theorem rd_v7{a0 a1 a2 a3 a4 a5 a6:Option V}{v:V}{r:St}(h:Q v H):tVar 7 (a0::a1::a2::a3::a4::a5::a6::some v::r) H Q:=⟨v,rfl,h⟩
theorem rd_n7{a0 a1 a2 a3 a4 a5 a6 a7:Option V}{v:V}{r:St}{R:St->Hp->Prop}(h:R (a0::a1::a2::a3::a4::a5::a6::some v::r) H):gName 7 v (a0::a1::a2::a3::a4::a5::a6::a7::r) H R:=h
theorem rd_v8{a0 a1 a2 a3 a4 a5 a6 a7:Option V}{v:V}{r:St}(h:Q v H):tVar 8 (a0::a1::a2::a3::a4::a5::a6::a7::some v::r) H Q:=⟨v,rfl,h⟩
theorem rd_n8{a0 a1 a2 a3 a4 a5 a6 a7 a8:Option V}{v:V}{r:St}{R:St->Hp->Prop}(h:R (a0::a1::a2::a3::a4::a5::a6::a7::some v::r) H):gName 8 v (a0::a1::a2::a3::a4::a5::a6::a7::a8::r) H R:=h
theorem rd_v9{a0 a1 a2 a3 a4 a5 a6 a7 a8:Option V}{v:V}{r:St}(h:Q v H):tVar 9 (a0::a1::a2::a3::a4::a5::a6::a7::a8::some v::r) H Q:=⟨v,rfl,h⟩
theorem rd_n9{a0 a1 a2 a3 a4 a5 a6 a7 a8 a9:Option V}{v:V}{r:St}{R:St->Hp->Prop}(h:R (a0::a1::a2::a3::a4::a5::a6::a7::a8::some v::r) H):gName 9 v (a0::a1::a2::a3::a4::a5::a6::a7::a8::a9::r) H R:=h
theorem rd_v10{a0 a1 a2 a3 a4 a5 a6 a7 a8 a9:Option V}{v:V}{r:St}(h:Q v H):tVar 10 (a0::a1::a2::a3::a4::a5::a6::a7::a8::a9::some v::r) H Q:=⟨v,rfl,h⟩
theorem rd_n10{a0 a1 a2 a3 a4 a5 a6 a7 a8 a9 a10:Option V}{v:V}{r:St}{R:St->Hp->Prop}(h:R (a0::a1::a2::a3::a4::a5::a6::a7::a8::a9::some v::r) H):gName 10 v (a0::a1::a2::a3::a4::a5::a6::a7::a8::a9::a10::r) H R:=h
theorem rd_v11{a0 a1 a2 a3 a4 a5 a6 a7 a8 a9 a10:Option V}{v:V}{r:St}(h:Q v H):tVar 11 (a0::a1::a2::a3::a4::a5::a6::a7::a8::a9::a10::some v::r) H Q:=⟨v,rfl,h⟩
theorem rd_n11{a0 a1 a2 a3 a4 a5 a6 a7 a8 a9 a10 a11:Option V}{v:V}{r:St}{R:St->Hp->Prop}(h:R (a0::a1::a2::a3::a4::a5::a6::a7::a8::a9::a10::some v::r) H):gName 11 v (a0::a1::a2::a3::a4::a5::a6::a7::a8::a9::a10::a11::r) H R:=h
theorem rd_const{v:V}(h:Q v H):tC v σ H Q:=h
theorem rd_op{r:R2}(h:ta σ H fun x H1=>tb σ H1 fun y H2=>r x y H2 Q):tOp r ta tb σ H Q:=h
theorem rd_un{r:V->Hp->VK->Prop}(h:ta σ H fun x H1=>r x H1 Q):tUn r ta σ H Q:=h
theorem rd_i0{g:Int->Int->V}{i j:Int}(h:Q (g i j) H):rI0 g (.int i) (.int j) H Q:=⟨i,j,rfl,rfl,h⟩
theorem xU{C:Int->Int->Prop}{g:Int->Int->V}{i j:Int}(c:C i j)(h:Q (g i j) H):rI C g (.int i) (.int j) H Q:=⟨i,j,rfl,rfl,c,h⟩
theorem rd_u{g:Int->V}{i:Int}(h:Q (g i) H):rU g (.int i) H Q:=⟨i,rfl,h⟩
theorem rd_eqI{i j:Int}(h:Q (.bl (decide (i=j))) H):rEq (.int i) (.int j) H Q:=by
 refine⟨rfl,?_⟩;rw[show decide (V.int i=V.int j)=decide (i=j) by simp];exact h
theorem rd_eqS{i j:Str}(h:Q (.bl (decide (i=j))) H):rEq (.str i) (.str j) H Q:=by
 refine⟨rfl,?_⟩;rw[show decide (V.str i=V.str j)=decide (i=j) by simp];exact h
theorem rd_if{c:TT}{t u:TS}(h:c σ H fun b H1=>if b=true then t D σ H1 else u D σ H1):tIfS c t u D σ H:=h
theorem rd_test{R:Bool->Hp->Prop}(h:te σ H fun x H'=>∃k,x = .bl k/\R k H'):tTest te σ H R:=h
theorem rd_tB{R:Bool->Hp->Prop}(h:te σ H fun x H'=>∃k,x = .bl k/\R k H'):tB te σ H R:=h
theorem rd_blP{k:Bool}{R:Bool->Prop}(h:R k):∃k',V.bl k = .bl k'/\R k':=⟨k,rfl,h⟩
theorem rd_and{t u:TT}{R:Bool->Hp->Prop}(h:t σ H fun c H1=>if c=true then u σ H1 R else R false H1):tAnd t u σ H R:=h
theorem rd_or{t u:TT}{R:Bool->Hp->Prop}(h:t σ H fun c H1=>if c=true then R true H1 else u σ H1 R):tOr t u σ H R:=h
theorem rd_andV(h:ta σ H fun x H1=>∃c,x = .bl c/\if c=true then tb σ H1 Q else Q (.bl false) H1):tAndV ta tb σ H Q:=h
theorem rd_ifE{t:TT}(h:t σ H fun c H1=>if c=true then ta σ H1 Q else tb σ H1 Q):tIf t ta tb σ H Q:=h
theorem rd_ret(h:te σ H D.rt):tRet te D σ H:=h
theorem rd_retN(h:D.rt .non H):tRetN D σ H:=h
theorem rd_next(h:D.nx σ H):tNext D σ H:=h
theorem rd_drop(h:te σ H fun _ H1=>D.nx σ H1):tDrop te D σ H:=h
theorem rd_cb{r:List V->Hp->VK->Prop}{t:TA}(h:t σ H fun vs H1=>r vs H1 Q):tCB r t σ H Q:=h
theorem rd_call{sp:Sp}{dvs:List V}{E:XK}{t:TA}(h:t σ H fun vs H1=>sp (vs++dvs) H1 Q E):tCall sp dvs E t σ H Q:=h
theorem rd_dIn(h:ta σ H fun y H1=>tb σ H1 fun x H2=>∃a o,x = .ref a/\DGet H2 a y o/\Q (.bl o.isSome) H2):tDIn ta tb σ H Q:=h
theorem rd_nil{R:List V->Hp->Prop}(h:R [] H):tNil σ H R:=h
theorem rd_cons{tr:TA}{R:List V->Hp->Prop}(h:ta σ H fun x H1=>tr σ H1 fun xs H2=>R (x::xs) H2):tCons ta tr σ H R:=h
theorem rd_lst{t:TA}(h:t σ H fun xs H1=>xs.length<=sizeLine/\∀p,H1 p=none->Q (.ref p) (upd H1 p (.lst xs))):tLst t σ H Q:=h
theorem rd_tup{t:TA}(h:t σ H fun xs H1=>xs.length<=sizeLine/\∀p,H1 p=none->Q (.ref p) (upd H1 p (.tup xs))):tTup t σ H Q:=h
theorem rd_bm{K:Frg}{T:String}{r:V->List V->Hp->VK->Prop}{t:TA}(h:te σ H fun x H1=>tyV K T x H1/\t σ H1 fun xs H2=>r x xs H2 Q):tBM K T r te t σ H Q:=h
theorem rd_sl{r:V->Option Int->Option Int->Hp->VK->Prop}{tl th:TO}(h:te σ H fun x H1=>tl σ H1 fun l H2=>th σ H2 fun u H3=>r x l u H3 Q):tSl r te tl th σ H Q:=h
theorem rd_nopart{R:Option Int->Hp->Prop}(h:R none H):tNoPart σ H R:=h
theorem rd_part{R:Option Int->Hp->Prop}(h:te σ H fun x H1=>∃i,x = .int i/\R (some i) H1):tPart te σ H R:=h
theorem rd_int{i:Int}{R:Int->Prop}(h:R i):∃i',V.int i = .int i'/\R i':=⟨i,rfl,h⟩
theorem iteD{p A B:Prop}[Decidable p](h1:p->A)(h2:¬p->B):if decide p=true then A else B:=by
 by_cases h:p
 ·rw[if_pos (decide_eq_true h)];exact h1 h
 ·rw[if_neg (by simpa using h)];exact h2 h
theorem iteN{p A B:Prop}[Decidable p](h1:¬p->A)(h2:p->B):if(!decide p)=true then A else B:=by
 by_cases h:p
 ·rw[if_neg (by simpa using h)];exact h2 h
 ·rw[if_pos (by simpa using h)];exact h1 h
theorem rd_rng1{ta:TA}{R:It->Hp->Prop}(h:ta σ H fun vs H1=>∃j:Int,vs=[.int j]/\-(2^62)<=j/\j<2^62/\R (Itr 0 j.toNat) H1):iRng1 ta σ H R:=h
theorem rd_iList{K:Frg}{R:It->Hp->Prop}(h:te σ H fun x H1=>∃a,x = .ref a/\(∃xs,SqL K H1 a xs)/\R (Itl K a) H1):iList K te σ H R:=h
theorem rd_p18(h:Q (.int (10^18)) H):rI CPow (fun i j=>.int (i^j.toNat)) (.int 10) (.int 18) H Q:=⟨10,18,rfl,rfl,⟨by decide,by decide,by decide⟩,h⟩
theorem rd_p20(h:Q (.int (10^20)) H):rI CPow (fun i j=>.int (i^j.toNat)) (.int 10) (.int 20) H Q:=⟨10,20,rfl,rfl,⟨by decide,by decide,by decide⟩,h⟩
theorem rd_p60(h:Q (.int (10^60)) H):rI CPow (fun i j=>.int (i^j.toNat)) (.int 10) (.int 60) H Q:=⟨10,60,rfl,rfl,⟨by decide,by decide,by decide⟩,h⟩
theorem rd_p64(h:Q (.int (10^64)) H):rI CPow (fun i j=>.int (i^j.toNat)) (.int 10) (.int 64) H Q:=⟨10,64,rfl,rfl,⟨by decide,by decide,by decide⟩,h⟩
theorem rd_for{wi:TI}{g:TG}{tb:TS} (h:wi σ H fun J H1=>∃W:Nat->Nat->St->Hp->Prop,(∃m,W 0 m σ H1)/\∀i m σ H,W i m σ H->
 (J.stop i H/\D.nx σ H)\/(J.go i H/\∃N:St->Hp->Prop,(∀σ' H',N σ' H'->∃m',m'<m/\W (i+1) m' σ' H')/\∀x H',J.yld i H x H'->g x σ H' fun σ2 H2=>tb {D with nx:=N,ct:=N,bk:=D.nx} σ2 H2)):tFor wi g tb D σ H:=h
theorem rd_comp{wi:TI}{n:Nat}{ci:List Nat}{g:TG}{tf:TT} (h:wi σ H fun J H1=>∃W:Nat->Nat->List V->Hp->Prop,(∃m,W 0 m [] H1)/\∀i m ys H,W i m ys H->
 (J.stop i H/\ys.length<=sizeLine/\∀p,H p=none->Q (.ref p) (upd H p (.lst ys)))\/
 (J.go i H/\∃N:List V->Hp->Prop,(∀ys' H',N ys' H'->∃m',m'<m/\W (i+1) m' ys' H')/\∀x H',J.yld i H x H'->g x (capS n ci σ) H' fun σ2 H2=>tf σ2 H2 fun b H3=>
  if b=true then te σ2 H3 fun v H4=>ys.length<sizeLine/\N (ys++[v]) H4 else N ys H3)):tComp wi n ci g tf te σ H Q:=h
theorem rd_yes{R:Bool->Hp->Prop}(h:R true H):tYes σ H R:=h
theorem qu{n:Nat}{ci:List Nat}{g:TG}{x:V}{σ':St}{R:St->Hp->Prop}(e:capS n ci σ=σ')(h:g x σ' H R):g x (capS n ci σ) H R:=by rw[e];exact h
theorem jE{t:TS}{σ':St}(e:σ=σ')(h:t D σ' H):t D σ H:=by subst e;exact h
theorem xr{x y A B:Int}(h1 : -A<=x)(h2:x<=A)(h3 : -B<=y)(h4:y<=B) : -(A*B)<=x*y/\x*y<=A*B:=by
 have hx:x.natAbs<=A.toNat:=by omega
 have hy:y.natAbs<=B.toNat:=by omega
 have h:=Nat.mul_le_mul hx hy;rw[<-Int.natAbs_mul]at h;have e:((A.toNat*B.toNat:Nat):Int)=A*B:=by
  rw[Int.natCast_mul,Int.toNat_of_nonneg (by omega),Int.toNat_of_nonneg (by omega)]
 have h':((x*y).natAbs:Int)<=A*B:=by rw[<-e];exact Int.ofNat_le.mpr h
 omega
theorem y0{H H':Hp}{p:Addr}{o:HO}(h:H p=none)(e:upd H p o=H'):Same H H':=fun b u q=>by rw[<-e,jk (je q h)];exact q
theorem KS{H H':Hp}{p:Addr}{o:HO}(e:upd H p o=H'):H' p=some o:=by rw[<-e];exact jf
end
theorem ixLm{K:Frg}{p:Addr}{xs:List V}{i:Int}{v:V}{H:Hp}{Q:VK}(h:SqL K H p xs)(e:atI xs i=some v)(q:Q v H):rIxL K (.ref p) (.int i) H Q:=⟨p,xs,i,v,rfl,rfl,h,e,q⟩
theorem ixTm{K:Frg}{p:Addr}{xs:List V}{i:Int}{v:V}{H:Hp}{Q:VK}(h:SqT K H p xs)(e:atI xs i=some v)(q:Q v H):rIxT K (.ref p) (.int i) H Q:=⟨p,xs,i,v,rfl,rfl,h,e,q⟩
end L2
local macro_rules | `(tactic| walk_at "side") => `(tactic| first | with_reducible assumption | exact L2.cdivB (by omega) (by omega) | exact L2.mulOk (by omega) (by omega) (by omega) (by omega) | exact L2.mulOkC (by first | assumption | exact L2.bits_ediv (by assumption) _) (by omega) (by omega) | omega)
local macro_rules | `(tactic| walk_at $s:str) => do
 let ws:=s.getString.splitOn " "
 if ws.head?==some "f" then
  let vs:=if ws.length==3 then["p"++ws.getD 1 "","hp"++ws.getD 1 "","H"++ws.getD 1 "","s"++ws.getD 1 "",ws.getD 2 ""++ws.getD 1 ""]else ws.drop 1
  let i:=fun(k:Nat)=>Lean.mkIdent (Lean.Name.mkSimple (vs.getD k ""))
  return <-`(tactic| (intro $(i 0):ident $(i 1):ident;generalize eH:L2.upd _ $(i 0) _ = $(i 2):ident;have $(i 3):ident:=L2.y0 $(i 1) eH;have $(i 4):ident:=L2.KS eH;clear eH))
 let ns:=match s.getString with | "goA"=>"rd_seq rd_asg rd_op rd_const rd_i0 rd_cons rd_nil rd_call rd_ret rd_if rd_test rd_tB rd_blP rd_next" | "goB"=>"rd_un rd_u rd_and rd_or rd_andV rd_ifE rd_retN rd_drop rd_cb rd_lst rd_tup rd_bm rd_sl rd_nopart rd_part rd_eqI rd_eqS rd_str rd_int rd_rng1 rd_iList rd_for rd_comp rd_yes rd_dget rd_prC rd_prN rd_iTup rd_iEnum rd_dnew rd_dput rd_rngD rd_dIn" | "goP"=>"rd_p18 rd_p20 rd_p60 rd_p64" | "goV"=>"rd_v0 rd_v1 rd_v2 rd_v3 rd_v4 rd_v5 rd_v6 rd_v7 rd_v8 rd_v9 rd_v10 rd_v11" | "goN"=>"rd_n0 rd_n1 rd_n2 rd_n3 rd_n4 rd_n5 rd_n6 rd_n7 rd_n8 rd_n9 rd_n10 rd_n11" | _=>""
 if ns == "" then Lean.Macro.throwUnsupported
 let as <-(ns.splitOn " ").toArray.mapM fun n=>`(Lean.Parser.Tactic.tacticSeq| refine $(Lean.mkIdent (Lean.Name.mkStr2 "L2" n)) ?_)
 `(tactic| with_reducible (first $[| $as]*))
local macro_rules | `(tactic| walk_at "go1") => `(tactic| first | walk_at "goA" | walk_at "goV" | walk_at "goB" | walk_at "goN" | walk_at "goP" | (with_reducible refine L2.xU ?c ?_; (case c => ((try dsimp only); walk_at "side"))))
local macro_rules | `(tactic| walk_at "g") => `(tactic| repeat walk_at "go1")
local macro_rules | `(tactic| exists $e) => `(tactic| (walk_at "g"; refine $e))
namespace Pr
open PySem L2
noncomputable def cell(ns:List Int)(k:Int):Int:=ns.getD k.toNat 0
inductive sp_cell_at(K:Frg)(vs:List V)(H:Hp)(Q:VK)(xk:XK):Prop
 | mk (a:Addr) (ns:List Int) (k:Int) (_:vs=[.ref a,.int k]) (_:SqL K H a (ns.map V.int)) (_:ns.length<=63) (_:0<=k) (_:Q (.int (cell ns k)) H):sp_cell_at K vs H Q xk
theorem jF{ns:List Int}{k:Int}(h0:0<=k)(h:k<(ns.length:Int)):atI (ns.map V.int) k=some (.int (cell ns k)):=by
 have ek:k=((k.toNat:Nat):Int):=by omega
 have hk:k.toNat<ns.length:=by omega
 have q:atI (ns.map V.int) ((k.toNat:Nat):Int)=some (.int ns[k.toNat]):=Jn (by rw[List.getElem?_map,List.getElem?_eq_getElem hk]<;>rfl);rw[<-ek]at q;rw[q];unfold cell;rw[getD_eq_getElem?_getD,List.getElem?_eq_getElem hk];rfl
end Pr
namespace Pr
open PySem L2
inductive sp_law(K:Frg)(vs:List V)(H:Hp)(Q:VK)(xk:XK):Prop
 | mk (a:Addr) (ns:List Int) (_:vs=[.ref a]) (_:SqL K H a (ns.map V.int)) (_:ns.length<=63) (_:(∀x∈ns,Builtin.Int.intBits x<=1048576)) (_:∀H',Q (.bl true) H'):sp_law K vs H Q xk
end Pr
namespace Pr
open PySem L2
theorem Wk{ns:List Int}{lo hi:Option Int}{x:V}(h:x∈cutV (ns.map V.int) lo hi):∃c∈ns,x = .int c:=by
 have h1:x∈ns.map V.int:=mem_of_mem_drop (mem_of_mem_take h);obtain⟨c,hc,e⟩:=mem_map.mp h1;exact⟨c,hc,e.symm⟩
end Pr
namespace Pr
open PySem L2
theorem jn{H:Hp}{p:Addr}(h:H p=none)(o:HO):Same H (upd H p o):=fun b u q=>by rw[jk (je q h)];exact q
end Pr
namespace Pr
open PySem L2
theorem Ym{ns:List Int}{k:Int}(_h0:0<=k)(h:k<(ns.length:Int)):ns[k.toNat]?=some (cell ns k):=by
 have hk:k.toNat<ns.length:=by omega
 unfold cell;rw[getD_eq_getElem?_getD,List.getElem?_eq_getElem hk];rfl
theorem K4{ns:List Int}{m:Int}(h0:0<=m)(h:m<=(ns.length:Int)):cutV (ns.map V.int) none (some m)=(ns.take m.toNat).map V.int:=by
 unfold cutV;rw[map_take];have e1:HT.sIx (ns.map V.int).length 0 none=0:=rfl;have e2:HT.sIx (ns.map V.int).length (ns.map V.int).length (some m)=m.toNat:=by
  show(if m<0 then _ else min m.toNat _)=_;rw[if_neg (by omega),length_map];omega
 rw[e1,e2];simp
end Pr
namespace Ws
open PySem PySem.NumText L2
noncomputable def lets:Str:="abcdefghijklmnopqrstuvwxyz"
noncomputable def among(x z:Str):Bool:=decide (∀c∈x.cps.toList,c∈z.cps.toList)
noncomputable def isW(x:Str):Bool:=decide (1<=x.length/\x.length<=8)&&among x lets
theorem ZD(x:Str):x.cps.toList.length=x.length:=Array.length_toList
def Qx:Sp:=fun vs H Q _=>∃c m:Int,vs=[.int c,.int m]/\0<=m/\m<=100/\
 ∀(p:Addr) (ns:List Int) (H':Hp),Same H H'->H p=none->H' p=some (.lst (ns.map V.int))->(ns.length:Int)=m->(∀n∈ns,0<=n/\n<33554432)->Q (.ref p) H'
theorem Qw{H H':Hp}{p:Addr}{o:HO}(h:Same H H')(hp:H p=none):Same H (upd H' p o):=fun b u q=>by
 rw[jk (je q hp)];exact h b u q
end Ws
namespace Ws
open PySem PySem.NumText L2
end Ws
namespace Ws
open PySem L2
theorem YS:∀(l:List Str),(∀z∈l,z.length=1)->(l.map (·.length)).sum=l.length
 | [],_=>rfl
 | a::r,h=>by
  rw[map_cons,sum_cons,YS r fun z hz=>h z (mem_cons_of_mem _ hz),h a mem_cons_self,length_cons];omega
end Ws
namespace Rm
open PySem PySem.NumText PyProof.Rows L2
def qV:Sp:=fun vs H Q _=>∃c m:Int,vs=[.int c,.int m]/\0<=m/\m<=100/\∀r:Int,Q (.int r) H
def Q4:Sp:=fun vs H Q _=>∃c m l:Int,vs=[.int c,.int m,.int l]/\0<=m/\m<33554432/\0<=l/\l<=1/\∀r:Int,l<=r->r<=10^18->Q (.int r) H
theorem to19{P:Int->Prop}(h:∀k:Nat,k<19->P k){n:Int}(h0:0<=n)(h1:n<19):P n:=by
 have e:=h n.toNat (by omega);rw[Int.toNat_of_nonneg h0]at e;exact e
theorem mulOk0{n:Int}(h0:0<=n)(h1:n<19):MulOk "0" n:=mulOk_of 16 1048576 (by decide +kernel) (by omega) (by omega) (by decide) (by decide)
theorem wP{n:Int}(h0:0<=n)(h1:n<19):(Str.ofString "1").length+(Txt.mul "0" n).length<=sizeLine:=by
 refine to19 (P:=fun n=>(Str.ofString "1").length+(Txt.mul "0" n).length<=sizeLine) ?_ h0 h1;decide +kernel
theorem KL{n:Int}(h0:0<=n)(h1:n<19):(Str.ofString "1"++Txt.mul "0" n).length<=640:=by
 refine to19 (P:=fun n=>(Str.ofString "1"++Txt.mul "0" n).length<=640) ?_ h0 h1;decide +kernel
theorem tens{n:Int}(h0:0<=n)(h1:n<19):intText? (Str.ofString "1"++Txt.mul "0" n)=some ((10:Int)^n.toNat):=by
 refine to19 (P:=fun n=>intText? (Str.ofString "1"++Txt.mul "0" n)=some ((10:Int)^n.toNat)) ?_ h0 h1;decide +kernel
theorem cutTo{x:Str}{j:Int}(h0:0<=j)(h:j<=(x.length:Int)):(Txt.slice x none (some j)).cps.toList=x.cps.toList.take j.toNat:=by
 have e:Txt.slice x none (some j)=⟨((x.cps.toList.drop 0).take (j-0).toNat).toArray⟩:=StrLaws.sliceText_to ⟨h0,by rw[Ws.ZD];exact h⟩;rw[e];simp
theorem cutFrom{x:Str}{i:Int}(h0:0<=i)(h:i<=(x.length:Int)):(Txt.slice x (some i) none).cps.toList=x.cps.toList.drop i.toNat:=by
 have e:Txt.slice x (some i) none=⟨((x.cps.toList.drop i.toNat).take ((x.cps.toList.length:Int)-i).toNat).toArray⟩:=StrLaws.sliceText_from ⟨h0,by rw[Ws.ZD];exact h⟩;rw[e];show List.take _ _=_;rw[take_of_length_le];rw[length_drop];omega
theorem app_list(a y:Str):(a++y).cps.toList=a.cps.toList++y.cps.toList:=by rw[Str.cps_append,Array.toList_append]
theorem Yr{c:Nat}:c∈Ws.lets.cps.toList↔97<=c/\c<=122:=by
 rw[show Ws.lets.cps.toList=List.range' 97 26 by decide +kernel,List.mem_range'_1];omega
theorem kc{i:Int}(h0:0<=i)(h1:i<26):atI (Str.ofString "abcdefghijklmnopqrstuvwxyz").cps.toList i=some (97+i.toNat):=by
 have h:∀k:Nat,k<26->atI (Str.ofString "abcdefghijklmnopqrstuvwxyz").cps.toList (k:Int)=some (97+(k:Int).toNat):=by decide +kernel
 have e:=h i.toNat (by omega);rw[Int.toNat_of_nonneg h0]at e;exact e
noncomputable def nmL(way:Int)(b:List Nat)(a k:Nat):List Nat:=
 if way=0 then b.take a++[97+k/26,97+k%26]++b.drop a else if way=1 then[97+k/26,97+k%26]++b.take (k%(b.length+1))else if k<26 then[97+k%26]else[97+k/26,97+k%26]
theorem Wn{way:Int}{b:List Nat}{a j k:Nat}(hj:j<68)(hk:k<68)(h:nmL way b a j=nmL way b a k):j=k:=by
 unfold nmL at h;split at h
 ·rw[List.append_assoc,List.append_assoc]at h;have h':=List.append_cancel_left h;simp only[List.cons_append,List.cons.injEq]at h';omega
 ·split at h
  ·simp only[List.cons_append,List.cons.injEq]at h;omega
  ·split at h<;>split at h<;>simp only[List.cons.injEq,reduceCtorEq,and_true,and_false,false_and]at h<;>omega
theorem Wo{way:Int}{b:List Nat}{a k:Nat}(hb:∀c∈b,97<=c/\c<=122)(hk:k<68){c:Nat}(h:c∈nmL way b a k):97<=c/\c<=122:=by
 unfold nmL at h;have t1:∀c∈[97+k/26,97+k%26],97<=c/\c<=122:=fun c hc=>by
  simp only[mem_cons,not_mem_nil,or_false]at hc;omega
 split at h
 ·rcases mem_append.mp h with h | h
  ·rcases mem_append.mp h with h | h
   ·exact hb c (mem_of_mem_take h)
   ·exact t1 c h
  ·exact hb c (mem_of_mem_drop h)
 ·split at h
  ·rcases mem_append.mp h with h | h
   ·exact t1 c h
   ·exact hb c (mem_of_mem_take h)
  ·split at h
   ·exact t1 c (mem_cons_of_mem _ h)
   ·exact t1 c h
theorem kP{way:Int}{b:List Nat}{a k:Nat}(hb:b.length<=6):1<=(nmL way b a k).length/\(nmL way b a k).length<=8:=by
 unfold nmL;split
 ·simp only[List.length_append,length_take,length_drop,length_cons,length_nil];omega
 ·split
  ·simp only[List.length_append,length_take,length_cons,length_nil];omega
  ·split<;>simp
theorem xf{x:Str}(h1:1<=x.cps.toList.length)(h2:x.cps.toList.length<=8)(h:∀c∈x.cps.toList,97<=c/\c<=122):Ws.isW x=true:=by
 rw[Ws.ZD]at h1 h2;unfold Ws.isW Ws.among;rw[decide_eq_true ⟨h1,h2⟩,Bool.true_and];exact decide_eq_true fun c hc=>Yr.mpr (h c hc)
theorem join_list:∀(zs:List Str),(Txt.join (Str.ofString "") zs).cps.toList=(zs.map (·.cps.toList)).flatten:=by
 intro zs;show(Builtin.Str.glued (Str.ofString "") zs).cps.toList=_;rw[StrLaws.glued_eq_join]
 induction zs with
 | nil=>rfl
 | cons a r ih=>
  cases r with
  | nil=>show a.cps.toList=a.cps.toList++[];rw[append_nil]
  | cons b r=>
   show(a++Str.ofString ""++Str.join (Str.ofString "") (b::r)).cps.toList=_;rw[app_list,app_list,ih,show(Str.ofString "").cps.toList=[] by decide +kernel,append_nil];rfl
theorem Ke{zs:List Str}(h:∀z∈zs,∃c,z=⟨#[c]⟩/\97<=c/\c<=122):(Txt.join (Str.ofString "") zs).length=zs.length/\∀c∈(Txt.join (Str.ofString "") zs).cps.toList,97<=c/\c<=122:=by
 refine⟨PySem.W.KT.join_ones zs fun z hz=>by obtain⟨c,rfl,_⟩:=h z hz;rfl,fun c hc=>?_⟩;rw[join_list]at hc;obtain⟨l,hl,hc⟩:=List.mem_flatten.mp hc;obtain⟨z,hz,rfl⟩:=mem_map.mp hl;obtain⟨d,rfl,h1,h2⟩:=h z hz;have e:c=d:=by simpa using hc
 omega
theorem Wq{way:Int}{b:List Nat}{a i:Nat}{ws:List Str}{x:Str}(hw:ws.length=i)(h:∀j,j<i->(ws[j]?).map (·.cps.toList)=some (nmL way b a j))(hx:x.cps.toList=nmL way b a i) :
  ∀j,j<i+1->((ws++[x])[j]?).map (·.cps.toList)=some (nmL way b a j):=fun j hj=>by
 by_cases e:j<i
 ·rw[List.getElem?_append_left (by omega)];exact h j e
 ·have e2:j=i:=by omega
  subst e2;rw[List.getElem?_append_right (by omega),hw,Nat.sub_self];exact congrArg some hx
open PySem L2
theorem none_of{H H':Hp}{p:Addr}(s:Same H H')(h:H' p=none):H p=none:=by
 cases e:H p with
 | none=>rfl
 | some u=>rw[s _ _ e]at h;cases h
inductive Fm where
 | hold (n:Int) | ring (x:Str) (n:Int) | rise (x:Str) (h n:Int) | row (ps:List Str) | side (ps:List Str) | again (k:Int) (x:Str)
structure Rr where
 names:List Str
 limbs:List (Str×Int)
 parts:List (Str×Fm)
 hands:List (List Int)
 longs:List Int
noncomputable def Rr.add(m:Rr)(f:Fm)(ks:List Int)(g:Int):Rr:={m with parts:=m.parts++[(m.names.getD m.parts.length ⟨#[]⟩,f)],hands:=m.hands++[ks],longs:=m.longs++[g]}
noncomputable def FormAt(H:Hp)(a:Addr):Fm->Prop
 | .hold n=>H a=some (.tup [.str "hold",.int n])
 | .ring x n=>H a=some (.tup [.str "ring",.str x,.int n])
 | .rise x h n=>H a=some (.tup [.str "raise",.str x,.int h,.int n])
 | .row ps=>∃b,H a=some (.tup [.str "row",.ref b])/\H b=some (.tup (ps.map V.str))
 | .side ps=>∃b,H a=some (.tup [.str "side",.ref b])/\H b=some (.tup (ps.map V.str))
 | .again k x=>H a=some (.tup [.str "again",.int k,.str x])
def PartAt(H:Hp)(a:Addr)(p:Str×Fm):Prop:=∃b,H a=some (.tup [.str p.1,.ref b])/\FormAt H b p.2
def LimbAt(H:Hp)(a:Addr)(p:Str×Int):Prop:=H a=some (.tup [.str p.1,.int p.2])
def All2{α:Type}(R:Addr->α->Prop)(as:List Addr)(xs:List α):Prop:=as.length=xs.length/\∀(i:Nat) (a:Addr) (x:α),as[i]?=some a->xs[i]?=some x->R a x
theorem All2.nil{α:Type}{R:Addr->α->Prop}:All2 R [] []:=⟨rfl,fun i a x h=>by simp at h⟩
theorem All2.mono{α:Type}{R S:Addr->α->Prop}{as:List Addr}{xs:List α}(h:All2 R as xs)(k:∀a x,R a x->S a x):All2 S as xs:=⟨h.1,fun i a x h1 h2=>k a x (h.2 i a x h1 h2)⟩
theorem All2.snoc{α:Type}{R:Addr->α->Prop}{as:List Addr}{xs:List α}{a:Addr}{x:α}(h:All2 R as xs)(hx:R a x):All2 R (as++[a]) (xs++[x]):=by
 have hl:=h.1;refine⟨by simp[hl],fun i b y h1 h2=>?_⟩;by_cases hi:i<as.length
 ·rw[List.getElem?_append_left hi]at h1;rw[List.getElem?_append_left (by omega)]at h2;exact h.2 i b y h1 h2
 ·rw[List.getElem?_append_right (by omega)]at h1;rw[List.getElem?_append_right (by omega)]at h2;have e:i-as.length=0:=by
   have:=(List.getElem?_eq_some_iff.mp h1).1;simp at this;omega
  rw[e]at h1;rw[show i-xs.length=0 by omega]at h2;simp at h1 h2;subst h1 h2;exact hx
theorem All2.get{α:Type}{R:Addr->α->Prop}{as:List Addr}{xs:List α}{i:Nat}{x:α}(h:All2 R as xs)(hx:xs[i]?=some x):∃a,as[i]?=some a/\R a x:=by
 have hi:=(List.getElem?_eq_some_iff.mp hx).1;have hl:=h.1;have ha:as[i]?=some as[i]:=List.getElem?_eq_getElem (by omega);exact⟨_,ha,h.2 i _ _ ha hx⟩
structure Ra where
 r:Addr
 pn:Addr
 pl:Addr
 pp:Addr
 ph:Addr
 pg:Addr
def Ra.off(z:Ra)(a:Addr):Prop:=a≠z.pp/\a≠z.ph/\a≠z.pg
def HandAt(z:Ra)(H:Hp)(a:Addr)(ks:List Int):Prop:=H a=some (.lst (ks.map V.int))/\z.off a
structure RoomAt(H:Hp)(z:Ra)(m:Rr):Prop where
 d:H z.r=some (.dK [(Sum.inr "names",.ref z.pn),(Sum.inr "limbs",.ref z.pl),(Sum.inr "parts",.ref z.pp),(Sum.inr "hands",.ref z.ph),(Sum.inr "long",.ref z.pg)])
 n:H z.pn=some (.lst (m.names.map V.str))
 l:∃ls,H z.pl=some (.lst (ls.map V.ref))/\All2 (LimbAt H) ls m.limbs
 p:∃qs,H z.pp=some (.lst (qs.map V.ref))/\All2 (PartAt H) qs m.parts
 h:∃hs,H z.ph=some (.lst (hs.map V.ref))/\All2 (HandAt z H) hs m.hands
 g:H z.pg=some (.lst (m.longs.map V.int))
 on:z.off z.pn
 ol:z.off z.pl
 ph:z.pp≠z.ph
 pg:z.pp≠z.pg
 hg:z.ph≠z.pg
def Kp(z:Ra)(H H':Hp):Prop:=∀b u,z.off b->H b=some u->H' b=some u
theorem Kp.refl(z:Ra)(H:Hp):Kp z H H:=fun _ _ _ h=>h
theorem Kp.trans{z:Ra}{H H1 H2:Hp}(a:Kp z H H1)(b:Kp z H1 H2):Kp z H H2:=fun c u o h=>b c u o (a c u o h)
theorem Kp.of{z:Ra}{H H':Hp}(s:Same H H'):Kp z H H':=fun b u _ h=>s b u h
section
variable{H H':Hp}{z:Ra}{m:Rr}
theorem qC(R:RoomAt H z m){a:Addr}{xs:List V}(h:H a=some (.tup xs)):z.off a:=by
 obtain⟨qs,e1,_⟩:=R.p;obtain⟨hs,e2,_⟩:=R.h;exact⟨qk h e1 (fun z=>by cases z),qk h e2 (fun z=>by cases z),qk h R.g (fun z=>by cases z)⟩
theorem YC(R:RoomAt H z m):z.off z.r:=by
 obtain⟨qs,e1,_⟩:=R.p;obtain⟨hs,e2,_⟩:=R.h;exact⟨qk R.d e1 (fun z=>by cases z),qk R.d e2 (fun z=>by cases z),qk R.d R.g (fun z=>by cases z)⟩
theorem qt(R:RoomAt H z m){a:Addr}(h:H a=none):z.off a:=by
 obtain⟨qs,e1,_⟩:=R.p;obtain⟨hs,e2,_⟩:=R.h;refine⟨fun e=>?_,fun e=>?_,fun e=>?_⟩
 ·rw[e,e1]at h;cases h
 ·rw[e,e2]at h;cases h
 ·rw[e,R.g]at h;cases h
theorem FormAt.kp{a:Addr}{f:Fm}(R:RoomAt H z m)(k:Kp z H H')(h:FormAt H a f):FormAt H' a f:=by
 cases f with
 | row ps=>obtain⟨b,h1,h2⟩:=h;exact⟨b,k _ _ (qC R h1) h1,k _ _ (qC R h2) h2⟩
 | side ps=>obtain⟨b,h1,h2⟩:=h;exact⟨b,k _ _ (qC R h1) h1,k _ _ (qC R h2) h2⟩
 | hold n=>exact k _ _ (qC R h) h
 | ring x n=>exact k _ _ (qC R h) h
 | rise x g n=>exact k _ _ (qC R h) h
 | again x n=>exact k _ _ (qC R h) h
theorem PartAt.kp{a:Addr}{p:Str×Fm}(R:RoomAt H z m)(k:Kp z H H')(h:PartAt H a p):PartAt H' a p:=by
 obtain⟨b,h1,h2⟩:=h;exact⟨b,k _ _ (qC R h1) h1,FormAt.kp R k h2⟩
theorem RoomAt.keeps(R:RoomAt H z m)(s:Same H H'):RoomAt H' z m:=by
 have k:Kp z H H':=Kp.of s;obtain⟨ls,e1,a1⟩:=R.l;obtain⟨qs,e2,a2⟩:=R.p;obtain⟨hs,e3,a3⟩:=R.h;exact⟨s _ _ R.d,s _ _ R.n,⟨ls,s _ _ e1,a1.mono fun a x h=>s _ _ h⟩,⟨qs,s _ _ e2,a2.mono fun a x h=>PartAt.kp R k h⟩,⟨hs,s _ _ e3,a3.mono fun a x h=>⟨s _ _ h.1,h.2⟩⟩,s _ _ R.g,R.on,R.ol,R.ph,R.pg,R.hg⟩
theorem yo(R:RoomAt H z m):DGet H z.r (.str "names") (some (.ref z.pn)):=DGet.k (k:=Sum.inr "names") R.d
theorem Q1(R:RoomAt H z m):DGet H z.r (.str "limbs") (some (.ref z.pl)):=DGet.k (k:=Sum.inr "limbs") R.d
theorem jV(R:RoomAt H z m):DGet H z.r (.str "parts") (some (.ref z.pp)):=DGet.k (k:=Sum.inr "parts") R.d
theorem Q0(R:RoomAt H z m):DGet H z.r (.str "hands") (some (.ref z.ph)):=DGet.k (k:=Sum.inr "hands") R.d
theorem ZA(R:RoomAt H z m):DGet H z.r (.str "long") (some (.ref z.pg)):=DGet.k (k:=Sum.inr "long") R.d
end
inductive sp_add(vs:List V)(H:Hp)(Q:VK)(xk:XK):Prop
 | mk (z:Ra) (m:Rr) (fa ha:Addr) (f:Fm) (ks:List Int) (g:Int) (_:vs=[.ref z.r,.ref fa,.ref ha,.int g]) (_:RoomAt H z m) (_:FormAt H fa f) (_:HandAt z H ha ks) (_:m.parts.length<68) (_:m.hands.length<68) (_:m.longs.length<68) (_:m.names.length=68) (_:∀H',Kp z H H'->RoomAt H' z (m.add f ks g)->(∀hs:List Addr,H z.ph=some (.lst (hs.map V.ref))->H' z.ph=some (.lst ((hs++[ha]).map V.ref)))->Q .non H'):sp_add vs H Q xk
theorem kz{ws:List Str}{n:Nat}(h:n<ws.length):atI (ws.map V.str) (n:Int)=some (.str (ws.getD n ⟨#[]⟩)):=by
 refine Jn ?_;rw[List.getElem?_map,getD_eq_getElem?_getD,List.getElem?_eq_getElem h];rfl
theorem KP{H H':Hp}{z:Ra}{m:Rr}{f:Fm}{ks:List Int}{g:Int}{p ha:Addr}{qs hs:List Addr}(R:RoomAt H z m)(k:Kp z H H')
  (eq:H z.pp=some (.lst (qs.map V.ref))) (aq:All2 (PartAt H) qs m.parts) (eh:H z.ph=some (.lst (hs.map V.ref))) (ah:All2 (HandAt z H) hs m.hands)
  (hp:PartAt H p (m.names.getD m.parts.length ⟨#[]⟩,f)) (hh:HandAt z H ha ks)
  (e1:H' z.pp=some (.lst (qs.map V.ref++[.ref p]))) (e2:H' z.ph=some (.lst (hs.map V.ref++[.ref ha]))) (e3:H' z.pg=some (.lst (m.longs.map V.int++[.int g]))):RoomAt H' z (m.add f ks g):=by
 obtain⟨ls,e0,a0⟩:=R.l;refine⟨k _ _ (YC R) R.d,k _ _ R.on R.n,⟨ls,k _ _ R.ol e0,a0.mono fun a x h=>k _ _ (qC R h) h⟩,⟨qs++[p],?_,?_⟩,⟨hs++[ha],?_,?_⟩,?_,R.on,R.ol,R.ph,R.pg,R.hg⟩
 ·rw[e1,map_append];rfl
 ·exact(aq.mono fun a x h=>PartAt.kp R k h).snoc (PartAt.kp R k hp)
 ·rw[e2,map_append];rfl
 ·exact(ah.mono fun a x h=>⟨k _ _ h.2 h.1,h.2⟩).snoc ⟨k _ _ hh.2 hh.1,hh.2⟩
 ·rw[e3];show _=some (HO.lst ((m.longs++[g]).map V.int));rw[map_append];rfl
noncomputable def Rr.nm(m:Rr)(j:Nat):Str:=m.names.getD j ⟨#[]⟩
noncomputable def Rr.hd(m:Rr)(j:Nat):List Int:=m.hands.getD j []
noncomputable def Rr.lg(m:Rr)(j:Nat):Int:=m.longs.getD j 0
def Idx(m:Rr)(i:Nat)(is:List Nat)(ps:List Str):Prop:=ps=is.map m.nm/\∀j∈is,j<i
def KsOf(m:Rr)(is:List Nat)(ks:List Int):Prop:=∀k,k∈ks↔∃j∈is,k∈m.hd j
def Apart(m:Rr)(is:List Nat):Prop:=(∀j∈is,m.hd j≠[])/\is.Pairwise fun a b=>∀k∈m.hd a,¬k∈m.hd b
noncomputable def FmOk(m:Rr)(i:Nat):Fm->List Int->Int->Prop
 | .hold n,ks,g=>1<=n/\n<=10^18/\ks=[]/\g=n
 | .ring x n,ks,g=>x∈m.names/\1<=n/\n<=10^18/\ks=[]/\g=n
 | .rise x h n,ks,g=>(∃(j:Nat) (v:Int),m.limbs[j]?=some (x,v)/\ks=[(j:Int)])/\0<=h/\h<=10^18/\1<=n/\n<=10^18/\g=n
 | .row ps,ks,g=>∃is,Idx m i is ps/\1<=is.length/\is.length<=8/\KsOf m is ks/\g=(is.map m.lg).sum
 | .side ps,ks,g=>∃is,Idx m i is ps/\2<=is.length/\is.length<=4/\Apart m is/\KsOf m is ks/\(∃j∈is,g=m.lg j)/\∀j∈is,m.lg j<=g
 | .again k x,ks,g=>1<=k/\k<=10^18/\∃j,j<i/\x=m.nm j/\ks=m.hd j/\g=k*m.lg j
structure PartOk(m:Rr)(i:Nat)(f:Fm)(ks:List Int)(g:Int):Prop where
 f:FmOk m i f ks g
 k:∀k∈ks,0<=k/\k<(m.limbs.length:Int)
 o:ks.Pairwise (· < ·)
 g1:1<=g
 g2:g<=10^60
structure Good(m:Rr):Prop where
 nl:m.names.length=68
 nd:m.names.Nodup
 nw:∀x∈m.names,Ws.isW x=true
 l1:1<=m.limbs.length
 l8:m.limbs.length<=8
 ln:(m.limbs.map (·.1)).Nodup
 lm:∀p∈m.limbs,p.1∈m.names/\0<=p.2/\p.2<=10^18
 hl:m.hands.length=m.parts.length
 gl:m.longs.length=m.parts.length
 ps:∀i p,m.parts[i]?=some p->p.1=m.nm i/\PartOk m i p.2 (m.hd i) (m.lg i)
section
variable{m:Rr}{f:Fm}{ks:List Int}{g:Int}
theorem getD_snoc{α:Type}{l:List α}{x d:α}{j:Nat}(h:j<l.length):(l++[x]).getD j d=l.getD j d:=by
 rw[getD_eq_getElem?_getD,getD_eq_getElem?_getD,List.getElem?_append_left h]
theorem getD_last{α:Type}{l:List α}{x d:α}:(l++[x]).getD l.length d=x:=by
 rw[getD_eq_getElem?_getD,List.getElem?_append_right (Nat.le_refl _),Nat.sub_self];rfl
theorem zg{j:Nat}(h:j<m.hands.length):(m.add f ks g).hd j=m.hd j:=getD_snoc h
theorem zK{j:Nat}(h:j<m.longs.length):(m.add f ks g).lg j=m.lg j:=getD_snoc h
theorem FmOk.add{f':Fm}{ks':List Int}{g':Int}{i:Nat}(h1:i<=m.hands.length)(h2:i<=m.longs.length)(h:FmOk m i f' ks' g'):FmOk (m.add f ks g) i f' ks' g':=by
 have eh:∀is:List Nat,(∀j∈is,j<i)->KsOf m is ks'->KsOf (m.add f ks g) is ks':=fun is hi h k=>by
  rw[h k];constructor
  ·rintro⟨j,hj,hk⟩;exact⟨j,hj,by rw[zg (by have:=hi j hj;omega)];exact hk⟩
  ·rintro⟨j,hj,hk⟩;exact⟨j,hj,by rw[zg (by have:=hi j hj;omega)]at hk;exact hk⟩
 cases f' with
 | hold n=>exact h
 | ring x n=>exact h
 | rise x v n=>exact h
 | row ps=>
  obtain⟨is,a,b,c,d,e⟩:=h;refine⟨is,a,b,c,eh is a.2 d,e.trans ?_⟩;congr 1;exact map_congr_left fun j hj=>(zK (by have:=a.2 j hj;omega)).symm
 | side ps=>
  obtain⟨is,a,b,c,p,d,e1,e2⟩:=h;refine⟨is,a,b,c,⟨fun j hj=>?_,?_⟩,eh is a.2 d,?_,fun j hj=>?_⟩
  ·rw[zg (by have:=a.2 j hj;omega)];exact p.1 j hj
  ·refine List.Pairwise.imp_of_mem (fun {x y} hx hy hxy=>?_) p.2;rw[zg (by have:=a.2 x hx;omega),zg (by have:=a.2 y hy;omega)];exact hxy
  ·obtain⟨j,hj,e⟩:=e1;exact⟨j,hj,by rw[zK (by have:=a.2 j hj;omega)];exact e⟩
  ·rw[zK (by have:=a.2 j hj;omega)];exact e2 j hj
 | again k x=>
  obtain⟨a,b,j,hj,c,d,e⟩:=h;exact⟨a,b,j,hj,c,by rw[zg (by omega)];exact d,by rw[zK (by omega)];exact e⟩
theorem Good.add(G:Good m)(h:PartOk m m.parts.length f ks g):Good (m.add f ks g):=by
 refine⟨G.nl,G.nd,G.nw,G.l1,G.l8,G.ln,G.lm,?_,?_,fun i p hp=>?_⟩
 ·show(m.hands++[ks]).length=(m.parts++_).length;rw[List.length_append,List.length_append,G.hl];rfl
 ·show(m.longs++[g]).length=(m.parts++_).length;rw[List.length_append,List.length_append,G.gl];rfl
 ·have e1:=G.hl;have e2:=G.gl;by_cases hi:i<m.parts.length
  ·have hp':m.parts[i]?=some p:=by rw[<-hp];exact(List.getElem?_append_left hi).symm
   obtain⟨n,o⟩:=G.ps i p hp';rw[zg (by omega),zK (by omega)];exact⟨n,FmOk.add (by omega) (by omega) o.f,o.k,o.o,o.g1,o.g2⟩
  ·have hl:i=m.parts.length:=by
    have:=(List.getElem?_eq_some_iff.mp hp).1;have e:(m.add f ks g).parts.length=m.parts.length+1:=by show(m.parts++_).length=_;rw[List.length_append];rfl
    omega
   subst hl;have ep:p=(m.nm m.parts.length,f):=by
    have e:(m.add f ks g).parts[m.parts.length]?=some (m.nm m.parts.length,f):=by
     show(m.parts++[_])[m.parts.length]?=_;rw[List.getElem?_append_right (Nat.le_refl _),Nat.sub_self];rfl
    rw[hp]at e;exact Option.some.inj e
   have e3:(m.add f ks g).hd m.parts.length=ks:=by rw[<-G.hl];exact getD_last
   have e4:(m.add f ks g).lg m.parts.length=g:=by rw[<-G.gl];exact getD_last
   rw[ep,e3,e4];exact⟨rfl,FmOk.add (by omega) (by omega) h.f,h.k,h.o,h.g1,h.g2⟩
theorem qP:(m.add f ks g).parts.length=m.parts.length+1:=by show(m.parts++_).length=_;rw[List.length_append];rfl
end
def Big(ns:List Int):Prop:=∀n∈ns,0<=n/\n<33554432
theorem Big.cell{ns:List Int}(h:Big ns){k:Int}(h0:0<=k)(h1:k<(ns.length:Int)):0<=Pr.cell ns k/\Pr.cell ns k<33554432:=h _ (mem_of_getElem? (Pr.Ym h0 h1))
def More(z:Ra)(m:Rr)(H:Hp)(Q:VK):Prop:=∀m' H',Kp z H H'->RoomAt H' z m'->Good m'->m'.parts.length=m.parts.length+1->Q .non H'
inductive sp_simple(vs:List V)(H:Hp)(Q:VK)(xk:XK):Prop
 | mk (z:Ra) (m:Rr) (c:Int) (p:Addr) (ns:List Int) (_:vs=[.ref z.r,.int c,.ref p]) (_:RoomAt H z m) (_:Good m) (_:m.parts.length<65) (_:H p=some (.lst (ns.map V.int))) (_:z.off p) (_:4<=ns.length) (_:Big ns) (_:More z m H Q):sp_simple vs H Q xk
theorem Yd{ws:List Str}{i:Int}(h0:0<=i)(h:i<(ws.length:Int)):atI (ws.map V.str) i=some (.str (ws.getD i.toNat ⟨#[]⟩)):=by
 have e:=kz (ws:=ws) (n:=i.toNat) (by omega);rw[Int.toNat_of_nonneg h0]at e;exact e
theorem getD_in{ws:List Str}{n:Nat}(h:n<ws.length):ws.getD n ⟨#[]⟩∈ws:=by
 rw[getD_eq_getElem?_getD,List.getElem?_eq_getElem h];exact getElem_mem h
theorem QC{as:List Addr}{i:Int}{a:Addr}(h0:0<=i)(h:as[i.toNat]?=some a):atI (as.map V.ref) i=some (.ref a):=by
 have e:atI (as.map V.ref) ((i.toNat:Nat):Int)=some (.ref a):=Jn (by rw[List.getElem?_map,h];rfl);rw[Int.toNat_of_nonneg h0]at e;exact e
open PySem PySem.Spec PyProof.Rows L2
inductive sp_there(vs:List V)(H:Hp)(Q:VK)(xk:XK):Prop
 | mk (z:Ra) (m:Rr) (n:Int) (_:vs=[.ref z.r,.int n]) (_:RoomAt H z m) (_:0<m.parts.length) (_:0<=n) (_:∀i:Nat,i<m.parts.length->Q (.int i) H):sp_there vs H Q xk
theorem kJ{k:Nat}{H:Hp}{Q:VK}(q:∀i:Nat,i<k->Q (.int i) H){x:Int}(h0:0<=x)(h1:x<k):Q (.int x) H:=by
 have e:=q x.toNat (by omega);rw[Int.toNat_of_nonneg h0]at e;exact e
noncomputable def vN(j:Nat):V:=.int j
inductive sp_apart(vs:List V)(H:Hp)(Q:VK)(xk:XK):Prop
 | mk (z:Ra) (m:Rr) (p:Addr) (ns:List Int) (_:vs=[.ref z.r,.ref p]) (_:RoomAt H z m) (_:Good m) (_:0<m.parts.length) (_:m.parts.length<65) (_:H p=some (.lst (ns.map V.int))) (_:6<=ns.length) (_:Big ns) (_:∀(l:Addr) (is:List Nat) (H':Hp),Same H H'->H l=none->H' l=some (.lst (is.map vN))->is.length<=4->(∀j∈is,j<m.parts.length)->Apart m is->Q (.ref l) H'):sp_apart vs H Q xk
theorem yr:∀{ks:List Int} {lo hi:Int},ks.Pairwise (· < ·)->(∀k∈ks,lo<=k/\k<hi)->ks.length<=(hi-lo).toNat
 | [],_,_,_,_=>Nat.zero_le _
 | k::r,lo,hi,h,b=>by
  have h1:=yr (ks:=r) (lo:=k+1) (hi:=hi) (List.pairwise_cons.mp h).2 fun x hx=>⟨(List.pairwise_cons.mp h).1 x hx,(b x (mem_cons_of_mem _ hx)).2⟩
  have h2:=b k mem_cons_self;rw[length_cons];omega
theorem Y7{m:Rr}(G:Good m){j:Nat}(h:j<m.parts.length):(m.hd j).length<=8:=by
 obtain⟨_,o⟩:=G.ps j _ (List.getElem?_eq_getElem h);have e:=yr o.o o.k;have:=G.l8;omega
theorem kG{H:Hp}:∀(ks:List Int),DVs H (ks.map V.int) (ks.map PyData.int)
 | []=>.nil
 | k::r=>.cons (.int k) (kG r)
theorem WP{H:Hp}{a:Addr}{ks:List Int}(h:H a=some (.lst (ks.map V.int))):DV H (.ref a) (.list (ks.map PyData.int)):=.lst h (kG ks)
theorem W8{H:Hp}{a:Addr}(h:H a=some (.lst [])):DV H (.ref a) (.list []):=.lst h .nil
theorem WQ(ks:List Int):PyData.eqv (.list (ks.map PyData.int)) (.list [])=decide (ks=[]):=by
 cases ks<;>simp[PyData.eqv,PyData.eqvAll]
theorem shp(ks:List Int):SeqAt.shaped (.list (ks.map PyData.int))=true:=PySem.W.ke_shaped_ints ks
theorem shp0:SeqAt.shaped (.list [])=true:=PySem.W.ke_shaped_ints []
theorem Zm{H:Hp}{z:Ra}{m:Rr}(R:RoomAt H z m)(G:Good m){j:Nat}(hj:j<m.parts.length){hs:List Addr}(eh:H z.ph=some (.lst (hs.map V.ref))):∃a,hs[j]?=some a/\H a=some (.lst ((m.hd j).map V.int))/\z.off a:=by
 obtain⟨hs',eh',ah⟩:=R.h;have e:hs'=hs:=by
  rw[eh]at eh';injection eh' with e;injection e with e;exact(List.map_inj_right (fun x y h=>by injection h)).mp e.symm
 subst e;have hl:=G.hl;obtain⟨a,ha,h1,h2⟩:=ah.get (i:=j) (x:=m.hd j) (by unfold Rr.hd;rw[getD_eq_getElem?_getD,List.getElem?_eq_getElem (by omega)];rfl);exact⟨a,ha,h1,h2⟩
theorem Apart.snoc{m:Rr}{is:List Nat}{j:Nat}{hs:List Int}(h:Apart m is)(hh:∀i∈is,∀k∈m.hd i,k∈hs)(h1:m.hd j≠[])(h2:∀k∈m.hd j,¬k∈hs):Apart m (is++[j]):=by
 refine⟨fun i hi=>?_,List.pairwise_append.mpr ⟨h.2,List.pairwise_singleton _ _,fun a ha b hb k hk hk'=>?_⟩⟩
 ·rcases mem_append.mp hi with e | e
  ·exact h.1 i e
  ·have e':i=j:=by simpa using e
   rw[e'];exact h1
 ·have e:b=j:=by simpa using hb
  subst e;exact h2 k hk' (hh a ha k hk)
theorem yM(n:Int):∀hs:List Int,inV (.int n) (hs.map V.int)=decide (n∈hs)
 | []=>rfl
 | h::r=>by
  have ih:=yM n r;unfold inV at ih|-;rw[map_cons,any_cons,ih];have e:eqV (.int h) (.int n)=decide (h=n):=by
   show decide _=_;simp
  rw[e,Bool.eq_iff_iff];simp only[Bool.or_eq_true,decide_eq_true_eq,mem_cons];constructor
  ·rintro(x | x)
   ·exact .inl x.symm
   ·exact .inr x
  ·rintro(x | x)
   ·exact .inl x.symm
   ·exact .inr x
theorem inI(n:Int)(hs:List Int):(if false=true then !inV (.int n) (hs.map V.int)else inV (.int n) (hs.map V.int))=decide (n∈hs):=by rw[if_neg (by decide),yM]
theorem notInI(n:Int)(hs:List Int):(if true=true then !inV (.int n) (hs.map V.int)else inV (.int n) (hs.map V.int)) = !decide (n∈hs):=by rw[if_pos rfl,yM]
theorem flats:∀hs:List Int,(hs.map V.int).all flatV=true
 | []=>rfl
 | h::r=>by rw[map_cons,all_cons,flats r];rfl
theorem take_snoc{α:Type}{l:List α}{i:Nat}{x:α}(h:l[i]?=some x):l.take (i+1)=l.take i++[x]:=by
 rw[List.take_add_one,h];rfl
inductive sp_naming(vs:List V)(H:Hp)(Q:VK)(xk:XK):Prop
 | mk (z:Ra) (m:Rr) (c:Int) (p:Addr) (ns:List Int) (_:vs=[.ref z.r,.int c,.ref p]) (_:RoomAt H z m) (_:Good m) (_:0<m.parts.length) (_:m.parts.length<65) (_:H p=some (.lst (ns.map V.int))) (_:z.off p) (_:ns.length=12) (_:Big ns) (_:More z m H Q):sp_naming vs H Q xk
theorem wW{ns:List Int}{h:Int}(h0:2<=h)(h1:h<=(ns.length:Int)):cutV (ns.map V.int) (some 2) (some h)=((ns.drop 2).take (h-2).toNat).map V.int:=by
 unfold cutV;rw[map_take,map_drop];have e1:HT.sIx (ns.map V.int).length 0 (some 2)=2:=(HT.qE (ns.map V.int).length 0 2).trans (by rw[length_map];omega);have e2:HT.sIx (ns.map V.int).length (ns.map V.int).length (some h)=h.toNat:=by
  show(if h<0 then _ else min h.toNat _)=_;rw[if_neg (by omega),length_map];omega
 rw[e1,e2];congr 1;omega
theorem ze{is:List Nat}{i:Nat}{x:V}(h:(is.map vN)[i]?=some x):∃j,is[i]?=some j/\x = .int j/\j∈is:=by
 rw[List.getElem?_map]at h;obtain⟨j,hj,rfl⟩:=Option.map_eq_some_iff.mp h;exact⟨j,hj,rfl,mem_of_getElem? hj⟩
theorem yO{m:Rr}(G:Good m){j:Nat}(h:j<m.parts.length):atI (m.longs.map V.int) (j:Int)=some (.int (m.lg j)):=by
 have e:=G.gl;refine Jn ?_;rw[List.getElem?_map];unfold Rr.lg;rw[getD_eq_getElem?_getD,List.getElem?_eq_getElem (by omega)];rfl
theorem wl{m:Rr}(G:Good m){j:Nat}(h:j<m.parts.length):1<=m.lg j/\m.lg j<=10^60:=by
 obtain⟨_,o⟩:=G.ps j _ (List.getElem?_eq_getElem h);exact⟨o.g1,o.g2⟩
theorem y8{m:Rr}(G:Good m):∀{is:List Nat},(∀j∈is,j<m.parts.length)->(is.length:Int)<=(is.map m.lg).sum/\(is.map m.lg).sum<=is.length*10^60
 | [],_=>⟨Int.le_refl _,by simp⟩
 | j::r,h=>by
  have a:=y8 G (is:=r) fun x hx=>h x (mem_cons_of_mem _ hx)
  have b:=wl G (h j mem_cons_self);rw[map_cons,sum_cons,length_cons];omega
theorem cut1{xs:List V}:cutV xs none (some 1)=xs.take 1:=by
 unfold cutV;rw[show HT.sIx xs.length 0 none=0 from rfl,show HT.sIx xs.length xs.length (some 1)=min 1 xs.length from HT.qE xs.length xs.length 1,List.drop_zero,Nat.sub_zero];cases xs with
 | nil=>rfl
 | cons x r=>rw[length_cons,show min 1 (r.length+1)=1 by omega]
theorem WR{m:Rr}(G:Good m){j:Nat}(h:j<m.parts.length):(m.hd j).Nodup:=by
 obtain⟨_,o⟩:=G.ps j _ (List.getElem?_eq_getElem h);exact o.o.imp fun h=>Int.ne_of_lt h
theorem ZB{m:Rr}{is:List Nat}{hs:List Int}{i j:Nat}(hj:is[i]?=some j)(h:∀k,k∈hs↔∃x∈is.take i,k∈m.hd x)(nd:hs.Nodup)(nj:(m.hd j).Nodup) :
  (hs++(m.hd j).filter fun k=>!decide (k∈hs)).Nodup/\∀k,k∈hs++(m.hd j).filter (fun k=>!decide (k∈hs))↔∃x∈is.take (i+1),k∈m.hd x:=by
 constructor
 ·refine nodup_append.mpr ⟨nd,nj.filter _,fun a ha b hb e=>?_⟩;subst e;have:=(mem_filter.mp hb).2;simp[ha]at this
 ·intro k;rw[take_snoc hj,mem_append,h k,mem_filter];constructor
  ·rintro(⟨x,hx,hk⟩ | ⟨hk,_⟩)
   ·exact⟨x,mem_append_left _ hx,hk⟩
   ·exact⟨j,mem_append_right _ (mem_singleton.mpr rfl),hk⟩
  ·rintro⟨x,hx,hk⟩;rcases mem_append.mp hx with e | e
   ·exact .inl ⟨x,e,hk⟩
   ·have e':x=j:=mem_singleton.mp e;subst e';by_cases hin:k∈hs
    ·exact .inl ((h k).mp hin)
    ·exact .inr ⟨hk,by simp[hin]⟩
theorem zU{ms hs:List Int}(hp:ms.Perm hs)(nd:hs.Nodup)(ho:ms.Pairwise (·<=·)):ms.Pairwise (· < ·):=
 (List.Pairwise.and ho (hp.nodup_iff.mpr nd)).imp fun {a b} h=>by have h1:=h.1;have h2:a≠b:=h.2;omega
theorem Yo{m:Rr}(G:Good m){is:List Nat}(hj:∀j∈is,j<m.parts.length){hs:List Int}(hmem:∀k,k∈hs↔∃j∈is,k∈m.hd j):∀k∈hs,0<=k/\k<(m.limbs.length:Int):=fun k hk=>by
 obtain⟨j,h1,h2⟩:=(hmem k).mp hk;exact(G.ps j _ (List.getElem?_eq_getElem (hj j h1))).2.k k h2
def Shp(n:Nat)(d:PyData):Prop:=d.canLay0=true/\d.depth<=n
theorem Shp.int{i:Int}:Shp 0 (.int i):=⟨rfl,Nat.le_refl _⟩
theorem Shp.str{x:Str}(h:PyData.strOk x=true):Shp 0 (.str x):=⟨h,Nat.le_refl _⟩
theorem Shp.mono{n k:Nat}{d:PyData}(h:Shp n d)(hk:n<=k):Shp k d:=⟨h.1,Nat.le_trans h.2 hk⟩
theorem zI{n:Nat}:∀{ds:List PyData},(∀d∈ds,Shp n d)->PyData.canLayAll0 ds=true/\PyData.depthAll ds<=n
 | [],_=>⟨rfl,Nat.zero_le _⟩
 | d::r,h=>by
  have h1:=h d mem_cons_self;have h2:=zI (ds:=r) fun x hx=>h x (mem_cons_of_mem _ hx)
  constructor
  ·show(d.canLay0&&PyData.canLayAll0 r)=true;rw[h1.1,h2.1];rfl
  ·show max d.depth (PyData.depthAll r)<=n;exact Nat.max_le.mpr ⟨h1.2,h2.2⟩
theorem Shp.lst{n:Nat}{ds:List PyData}(h:∀d∈ds,Shp n d):Shp (n+1) (.list ds):=⟨(zI h).1,Nat.succ_le_succ (zI h).2⟩
theorem Shp.tup{n:Nat}{ds:List PyData}(h:∀d∈ds,Shp n d):Shp (n+1) (.tuple ds):=⟨(zI h).1,Nat.succ_le_succ (zI h).2⟩
theorem Shp.ok{n:Nat}{d:PyData}(h:Shp n d)(hn:n<=64):SeqAt.shaped d=true:=by
 unfold SeqAt.shaped;rw[h.1,Bool.true_and];exact decide_eq_true (Nat.le_trans h.2 hn)
theorem Q5{x:Str}(h:Ws.isW x=true):PyData.strOk x=true:=by
 unfold Ws.isW Ws.among at h;rw[Bool.and_eq_true]at h;have h2:=of_decide_eq_true h.2;unfold PyData.strOk;rw[Array.all_eq_true_iff_forall_mem];intro c hc;have:=Yr.mp (h2 c (by simpa using hc));exact decide_eq_true (by omega)
noncomputable def fmD:Fm->PyData
 | .hold n=>.tuple [.str "hold",.int n]
 | .ring x n=>.tuple [.str "ring",.str x,.int n]
 | .rise x h n=>.tuple [.str "raise",.str x,.int h,.int n]
 | .row ps=>.tuple [.str "row",.tuple (ps.map PyData.str)]
 | .side ps=>.tuple [.str "side",.tuple (ps.map PyData.str)]
 | .again k x=>.tuple [.str "again",.int k,.str x]
noncomputable def partD(p:Str×Fm):PyData:=.tuple [.str p.1,fmD p.2]
noncomputable def limbD(p:Str×Int):PyData:=.tuple [.str p.1,.int p.2]
theorem yK{H:Hp}:∀(xs:List Str),DVs H (xs.map V.str) (xs.map PyData.str)
 | []=>.nil
 | x::r=>.cons (.str x) (yK r)
theorem w6{H:Hp}{a:Addr}{f:Fm}(h:FormAt H a f):DV H (.ref a) (fmD f):=by
 cases f with
 | hold n=>exact .tup h (.cons (.str _) (.cons (.int _) .nil))
 | ring x n=>exact .tup h (.cons (.str _) (.cons (.str _) (.cons (.int _) .nil)))
 | rise x v n=>exact .tup h (.cons (.str _) (.cons (.str _) (.cons (.int _) (.cons (.int _) .nil))))
 | row ps=>obtain⟨b,h1,h2⟩:=h;exact .tup h1 (.cons (.str _) (.cons (.tup h2 (yK ps)) .nil))
 | side ps=>obtain⟨b,h1,h2⟩:=h;exact .tup h1 (.cons (.str _) (.cons (.tup h2 (yK ps)) .nil))
 | again k x=>exact .tup h (.cons (.str _) (.cons (.int _) (.cons (.str _) .nil)))
theorem Wb{H:Hp}{a:Addr}{p:Str×Fm}(h:PartAt H a p):DV H (.ref a) (partD p):=by
 obtain⟨b,h1,h2⟩:=h;exact .tup h1 (.cons (.str _) (.cons (w6 h2) .nil))
theorem Wa{H:Hp}{a:Addr}{p:Str×Int}(h:LimbAt H a p):DV H (.ref a) (limbD p):=.tup h (.cons (.str _) (.cons (.int _) .nil))
theorem All2.tail{α:Type}{R:Addr->α->Prop}{a:Addr}{x:α}{as:List Addr}{xs:List α}(h:All2 R (a::as) (x::xs)):R a x/\All2 R as xs:=
 ⟨h.2 0 a x rfl rfl,Nat.succ.inj h.1,fun i b y h1 h2=>h.2 (i+1) b y (by simpa using h1) (by simpa using h2)⟩
theorem zB{α:Type}{H:Hp}{R:Addr->α->Prop}{D:α->PyData}(k:∀a x,R a x->DV H (.ref a) (D x)):∀{as:List Addr} {xs:List α},All2 R as xs->DVs H (as.map V.ref) (xs.map D)
 | [],[],_=>.nil
 | [],_::_,h=>by have:=h.1;simp at this
 | _::_,[],h=>by have:=h.1;simp at this
 | _::_,_::_,h=>.cons (k _ _ h.tail.1) (zB k h.tail.2)
noncomputable def FmWs:Fm->Prop
 | .hold n=>0<=n/\n<=10^18
 | .ring x n=>Ws.isW x=true/\0<=n/\n<=10^18
 | .rise x h n=>Ws.isW x=true/\0<=h/\h<=10^18/\0<=n/\n<=10^18
 | .row ps=>ps.length<=8/\∀x∈ps,Ws.isW x=true
 | .side ps=>ps.length<=8/\∀x∈ps,Ws.isW x=true
 | .again k x=>0<=k/\k<=10^18/\Ws.isW x=true
structure BkOk(ls:List (Str×Int))(ps:List (Str×Fm)):Prop where
 l8:ls.length<=8
 ln:∀p∈ls,Ws.isW p.1=true/\0<=p.2/\p.2<=10^18
 p61:ps.length<=61
 pn:∀p∈ps,Ws.isW p.1=true/\FmWs p.2
theorem Wp{m:Rr}(G:Good m){j:Nat}(h:j<68):Ws.isW (m.nm j)=true:=G.nw _ (getD_in (by rw[G.nl];exact h))
theorem Good.bk{m:Rr}(G:Good m)(h61:m.parts.length<=61):BkOk m.limbs m.parts:=by
 refine⟨G.l8,fun p hp=>⟨G.nw _ (G.lm p hp).1,(G.lm p hp).2⟩,h61,fun p hp=>?_⟩;obtain⟨i,hi,rfl⟩:=mem_iff_getElem.mp hp;obtain⟨e,o⟩:=G.ps i _ (List.getElem?_eq_getElem hi);refine⟨by rw[e];exact Wp G (by omega),?_⟩;have f:=o.f;generalize(m.parts[i]).2=fm at f;cases fm with
 | hold n=>exact⟨by have:=f.1;omega,f.2.1⟩
 | ring x n=>exact⟨G.nw _ f.1,by have:=f.2.1;omega,f.2.2.1⟩
 | rise x v n=>
  obtain⟨⟨j,v',hj,_⟩,h1,h2,h3,h4,_⟩:=f;exact⟨G.nw _ (G.lm _ (mem_of_getElem? hj)).1,h1,h2,by omega,h4⟩
 | row ps=>
  obtain⟨is,⟨rfl,hlt⟩,h1,h2,_⟩:=f;refine⟨by rw[length_map];exact h2,fun x hx=>?_⟩;obtain⟨j,hj,rfl⟩:=mem_map.mp hx;exact Wp G (by have:=hlt j hj;omega)
 | side ps=>
  obtain⟨is,⟨rfl,hlt⟩,h1,h2,_⟩:=f;refine⟨by rw[length_map];omega,fun x hx=>?_⟩;obtain⟨j,hj,rfl⟩:=mem_map.mp hx;exact Wp G (by have:=hlt j hj;omega)
 | again k x=>
  obtain⟨h1,h2,j,hj,rfl,_⟩:=f;exact⟨by omega,h2,Wp G (by omega)⟩
theorem ZS{n:Nat}{xs:List Str}(h:∀x∈xs,Ws.isW x=true):∀d∈xs.map PyData.str,Shp n d:=fun d hd=>by
 obtain⟨x,hx,rfl⟩:=mem_map.mp hd;exact(Shp.str (Q5 (h x hx))).mono (Nat.zero_le _)
theorem wN{f:Fm}(h:FmWs f):Shp 2 (fmD f):=by
 cases f with
 | hold n=>exact(Shp.tup (n:=0) (by rintro d hd;simp only[mem_cons,not_mem_nil,or_false]at hd;rcases hd with rfl | rfl;exact Shp.str (by decide +kernel);exact Shp.int)).mono (by decide)
 | ring x n=>exact(Shp.tup (n:=0) (by rintro d hd;simp only[mem_cons,not_mem_nil,or_false]at hd;rcases hd with rfl | rfl | rfl;exact Shp.str (by decide +kernel);exact Shp.str (Q5 h.1);exact Shp.int)).mono (by decide)
 | rise x v n=>exact(Shp.tup (n:=0) (by rintro d hd;simp only[mem_cons,not_mem_nil,or_false]at hd;rcases hd with rfl | rfl | rfl | rfl;exact Shp.str (by decide +kernel);exact Shp.str (Q5 h.1);exact Shp.int;exact Shp.int)).mono (by decide)
 | row ps=>exact Shp.tup (n:=1) (by rintro d hd;simp only[mem_cons,not_mem_nil,or_false]at hd;rcases hd with rfl | rfl;exact(Shp.str (by decide +kernel)).mono (by decide);exact Shp.tup (ZS h.2))
 | side ps=>exact Shp.tup (n:=1) (by rintro d hd;simp only[mem_cons,not_mem_nil,or_false]at hd;rcases hd with rfl | rfl;exact(Shp.str (by decide +kernel)).mono (by decide);exact Shp.tup (ZS h.2))
 | again k x=>exact(Shp.tup (n:=0) (by rintro d hd;simp only[mem_cons,not_mem_nil,or_false]at hd;rcases hd with rfl | rfl | rfl;exact Shp.str (by decide +kernel);exact Shp.int;exact Shp.str (Q5 h.2.2))).mono (by decide)
theorem KI{ls:List (Str×Int)}{ps:List (Str×Fm)}(B:BkOk ls ps):Shp 4 (.list (ps.map partD)):=by
 refine Shp.lst fun d hd=>?_
 obtain⟨p,hp,rfl⟩:=mem_map.mp hd;refine Shp.tup fun d hd=>?_
 simp only[mem_cons,not_mem_nil,or_false]at hd;rcases hd with rfl | rfl
 ·exact(Shp.str (Q5 (B.pn p hp).1)).mono (by decide)
 ·exact wN (B.pn p hp).2
theorem KH{ls:List (Str×Int)}{ps:List (Str×Fm)}(B:BkOk ls ps):Shp 4 (.list (ls.map limbD)):=by
 refine Shp.mono (n:=2) (Shp.lst fun d hd=>?_) (by decide);obtain⟨p,hp,rfl⟩:=mem_map.mp hd;refine Shp.tup fun d hd=>?_
 simp only[mem_cons,not_mem_nil,or_false]at hd;rcases hd with rfl | rfl
 ·exact Shp.str (Q5 (B.ln p hp).1)
 ·exact Shp.int
structure BookAt(H:Hp)(b pl pp:Addr)(las pas:List Addr)(ls:List (Str×Int))(ps:List (Str×Fm)):Prop where
 t:H b=some (.tup [.ref pl,.ref pp])
 l:H pl=some (.lst (las.map V.ref))
 la:All2 (LimbAt H) las ls
 p:H pp=some (.lst (pas.map V.ref))
 pa:All2 (PartAt H) pas ps
theorem FormAt.same{H H':Hp}{a:Addr}{f:Fm}(s:Same H H')(h:FormAt H a f):FormAt H' a f:=by
 cases f with
 | row ps=>obtain⟨b,h1,h2⟩:=h;exact⟨b,s _ _ h1,s _ _ h2⟩
 | side ps=>obtain⟨b,h1,h2⟩:=h;exact⟨b,s _ _ h1,s _ _ h2⟩
 | hold n=>exact s _ _ h
 | ring x n=>exact s _ _ h
 | rise x g n=>exact s _ _ h
 | again x n=>exact s _ _ h
theorem PartAt.same{H H':Hp}{a:Addr}{p:Str×Fm}(s:Same H H')(h:PartAt H a p):PartAt H' a p:=by
 obtain⟨b,h1,h2⟩:=h;exact⟨b,s _ _ h1,FormAt.same s h2⟩
theorem BookAt.same{H H':Hp}{b pl pp:Addr}{las pas:List Addr}{ls:List (Str×Int)}{ps:List (Str×Fm)}(B:BookAt H b pl pp las pas ls ps)(s:Same H H'):BookAt H' b pl pp las pas ls ps:=
 ⟨s _ _ B.t,s _ _ B.l,B.la.mono fun a x h=>s _ _ h,s _ _ B.p,B.pa.mono fun a x h=>PartAt.same s h⟩
theorem Km(ps:List (Str×Fm)):PyData.eqv (.list (ps.map partD)) (.list [])=decide (ps=[]):=by
 cases ps<;>simp[PyData.eqv,PyData.eqvAll]
noncomputable def lix(c:Int)(k:Nat):Nat:=if c%3<2 then 60+k else((c/3+5*(k:Int))%8).toNat
noncomputable def lnm(ws:List Str)(c:Int)(k:Nat):Str:=ws.getD (lix c k) ⟨#[]⟩
theorem KW{x y:Int}{i:Int}(h0:0<=i)(h1:i<3):atI [V.int x,V.int x,V.int y] i=some (.int (if i<2 then x else y)):=by
 rcases(by omega:i=0\/i=1\/i=2)with e | e | e<;>subst e<;>rfl
theorem xn{ws:List Str}{c:Int}{i:Nat}(hl:ws.length=68)(hc:0<=c)(hi:i<8) :
  0<=(if c%3<2 then 60+(0+(i:Int))else(c/3+5*(0+(i:Int)))%8)/\(if c%3<2 then 60+(0+(i:Int))else(c/3+5*(0+(i:Int)))%8)<(ws.length:Int)/\
   ws.getD (if c%3<2 then 60+(0+(i:Int))else(c/3+5*(0+(i:Int)))%8).toNat ⟨#[]⟩=lnm ws c i:=by
 unfold lnm lix;rw[hl,Int.zero_add];split
 ·exact⟨by omega,by omega,by rw[show(60+(i:Int)).toNat=60+i by omega]⟩
 ·exact⟨by omega,by omega,rfl⟩
theorem kd{c:Int}{k:Nat}(h:k<8):lix c k<68:=by
 unfold lix;split<;>omega
theorem Wj{c:Int}{j k:Nat}(hj:j<8)(hk:k<8)(h:lix c j=lix c k):j=k:=by
 unfold lix at h;split at h<;>omega
theorem getD_inj{ws:List Str}(nd:ws.Nodup){i j:Nat}(hi:i<ws.length)(hj:j<ws.length)(h:ws.getD i ⟨#[]⟩=ws.getD j ⟨#[]⟩):i=j:=by
 rw[getD_eq_getElem?_getD,getD_eq_getElem?_getD,List.getElem?_eq_getElem hi,List.getElem?_eq_getElem hj]at h;have h':ws[i]=ws[j]:=h;rcases Nat.lt_trichotomy i j with q | q | q
 ·exact absurd h' (pairwise_iff_getElem.mp nd i j hi hj q)
 ·exact q
 ·exact absurd h'.symm (pairwise_iff_getElem.mp nd j i hj hi q)
theorem xp{ws:List Str}{c:Int}{n:Nat}(hl:ws.length=68)(nd:ws.Nodup)(hn:n<=8):((List.range n).map (lnm ws c)).Nodup:=by
 refine pairwise_map.mpr (List.Pairwise.imp_of_mem (fun {a b} ha hb hab e=>?_) List.nodup_range);have h1:=mem_range.mp ha;have h2:=mem_range.mp hb;exact hab (Wj (by omega) (by omega) (getD_inj nd (by rw[hl];exact kd (by omega)) (by rw[hl];exact kd (by omega)) e))
theorem xo{ws:List Str}{c:Int}{n:Nat}(hl:ws.length=68)(hn:n<=8){x:Str}(h:x∈(List.range n).map (lnm ws c)):x∈ws:=by
 obtain⟨k,hk,rfl⟩:=mem_map.mp h;have:=mem_range.mp hk;exact getD_in (by rw[hl];exact kd (by omega))
theorem W4{xs:List V}:(cutV xs (some 2) (some 62)).length<=60:=by
 unfold cutV;rw[length_take,show HT.sIx xs.length 0 (some 2)=min 2 xs.length from HT.qE xs.length 0 2,show HT.sIx xs.length xs.length (some 62)=min 62 xs.length from HT.qE xs.length xs.length 62];omega
open PyProof.Rows.KTD (inKeys Dat)
theorem at0{x:V}{xs:List V}:atI (x::xs) 0=some x:=Jn (j:=0) rfl
theorem iteB0{b:Bool}{A B:Prop}(e:b=false)(h:B):if b=true then A else B:=by rw[e];exact h
theorem iteB1{b:Bool}{A B:Prop}(e:b=true)(h:A):if b=true then A else B:=by rw[e];exact h
theorem All2.at_ref{α:Type}{R:Addr->α->Prop}{as:List Addr}{xs:List α}{i:Nat}{v:V}(h:All2 R as xs)(hv:(as.map V.ref)[i]?=some v):∃a x,v = .ref a/\xs[i]?=some x/\R a x:=by
 rw[List.getElem?_map]at hv;obtain⟨a,ha,rfl⟩:=Option.map_eq_some_iff.mp hv;have hi:=(List.getElem?_eq_some_iff.mp ha).1;have hl:=h.1;have hx:xs[i]?=some xs[i]:=List.getElem?_eq_getElem (by omega);exact⟨a,_,rfl,hx,h.2 i a _ ha hx⟩
theorem Q2:∀{n:Nat} {hs:List Int},hs.Nodup->(∀k∈hs,0<=k/\k<(n:Int))->hs.length<=n
 | 0,hs,_,h=>by
  cases hs with
  | nil=>exact Nat.le_refl _
  | cons k r=>have:=h k mem_cons_self;omega
 | n+1,hs,nd,h=>by
  by_cases e:(n:Int)∈hs
  ·have i:=Q2 (n:=n) (nd.erase (n:Int)) fun k hk=>by
    have h1:=h k (List.mem_of_mem_erase hk);have h2:k≠(n:Int):=fun z=>nd.not_mem_erase (z▸hk)
    omega
   have l:=List.length_erase_of_mem e;omega
  ·have i:=Q2 (n:=n) nd fun k hk=>by
    have h1:=h k hk;have h2:k≠(n:Int):=fun z=>e (z▸hk)
    omega
   omega
noncomputable def Fm.ns:Fm->List Str
 | .row ps=>ps
 | .side ps=>ps
 | .again _ x=>[x]
 | _=>[]
noncomputable def numK(xs:List Str):List (Key×V):=xs.zipIdx.map fun p=>(Sum.inr p.1,.int (p.2:Nat))
theorem Kw(xs:List Str)(x:Str):numK (xs++[x])=numK xs++[(Sum.inr x,.int (xs.length:Nat))]:=by
 unfold numK;rw[List.zipIdx_append,map_append];simp
theorem wv(xs:List Str):(numK xs).length=xs.length:=by simp[numK]
theorem yu(xs:List Str):(numK xs).map (·.1)=xs.map Sum.inr:=by
 unfold numK;rw[map_map];have e:∀(k:Nat) (xs:List Str),(xs.zipIdx k).map ((fun x=>x.1)∘fun p:Str×Nat=>((Sum.inr p.1:Key),V.int (p.2:Nat)))=xs.map Sum.inr:=fun k xs=>by
  induction xs generalizing k with
  | nil=>rfl
  | cons x r ih=>rw[List.zipIdx_cons,map_cons,map_cons,ih];rfl
 exact e 0 xs
theorem Wr{xs:List Str}{j:Nat}{x:Str}(h:xs[j]?=some x):(numK xs)[j]?=some (Sum.inr x,.int (j:Nat)):=by
 unfold numK;rw[List.getElem?_map,List.getElem?_zipIdx,h];simp
theorem ZW:∀{kvs:List (Key×V)} {j:Nat} {k:Key} {v:V},(kvs.map (·.1)).Nodup->kvs[j]?=some (k,v)->valV kvs k=some v
 | [],j,k,v,_,h=>by simp at h
 | p::r,0,k,v,_,h=>by
  simp at h;subst h;unfold valV;simp
 | p::r,j+1,k,v,nd,h=>by
  rw[map_cons,nodup_cons]at nd;have h':r[j]?=some (k,v):=by simpa using h
  have ne:p.1≠k:=fun e=>nd.1 (e▸mem_map.mpr ⟨(k,v),mem_of_getElem? h',rfl⟩)
  have ih:=ZW nd.2 h';unfold valV at ih|-;rw[List.find?_cons,decide_eq_false ne];exact ih
theorem ww{xs:List Str}(nd:xs.Nodup){j:Nat}{x:Str}(h:xs[j]?=some x):valV (numK xs) (Sum.inr x)=some (.int (j:Nat)):=
 ZW (by rw[yu];exact pairwise_map.mpr (nd.imp fun h e=>h (Sum.inr.inj e))) (Wr h)
theorem QW{kvs:List (Key×V)}{k:Key}{v:V}(h:k∉kvs.map (·.1)):putK kvs k v=kvs++[(k,v)]:=by
 unfold putK;rw[if_neg];intro e;obtain⟨p,hp,hk⟩:=List.any_eq_true.mp e;exact h (mem_map.mpr ⟨p,hp,of_decide_eq_true hk⟩)
noncomputable def ixOf:List Str->Str->Nat
 | [],_=>0
 | y::r,x=>if y=x then 0 else ixOf r x+1
theorem qQ:∀{xs:List Str} {j:Nat} {x:Str},xs.Nodup->xs[j]?=some x->ixOf xs x=j
 | [],j,x,_,h=>by simp at h
 | y::r,0,x,_,h=>by
  simp at h;subst h;exact if_pos rfl
 | y::r,j+1,x,nd,h=>by
  rw[nodup_cons]at nd;have h':r[j]?=some x:=by simpa using h
  have ne:y≠x:=fun e=>nd.1 (e▸mem_of_getElem? h')
  show(if y=x then 0 else ixOf r x+1)=j+1;rw[if_neg ne,qQ nd.2 h']
noncomputable def nmsOf{α:Type}(ps:List (Str×α)):List Str:=ps.map (·.1)
structure WfB(ls:List (Str×Int))(ps:List (Str×Fm)):Prop where
 ln:(nmsOf ls).Nodup
 l8:ls.length<=8
 pn:(nmsOf ps).Nodup
 p61:ps.length<=61
 f:∀(i:Nat) (p:Str×Fm),ps[i]?=some p->(∀x∈p.2.ns,∃j,j<i/\(nmsOf ps)[j]?=some x)/\p.2.ns.length<=8
 r:∀(i:Nat) (y x:Str) (h n:Int),ps[i]?=some (y,.rise x h n)->∃j:Nat,(nmsOf ls)[j]?=some x
theorem Yx{m:Rr}(G:Good m){j:Nat}(h:j<m.parts.length):(nmsOf m.parts)[j]?=some (m.nm j):=by
 unfold nmsOf;rw[List.getElem?_map,List.getElem?_eq_getElem h];exact congrArg some (G.ps j _ (List.getElem?_eq_getElem h)).1
theorem Good.wf{m:Rr}(G:Good m)(h61:m.parts.length<=61):WfB m.limbs m.parts:=by
 have nmd:∀i j,i<m.parts.length->j<m.parts.length->m.nm i=m.nm j->i=j:=fun i j hi hj e=>getD_inj G.nd (by rw[G.nl];omega) (by rw[G.nl];omega) e
 refine⟨G.ln,G.l8,?_,h61,fun i p hp=>?_,fun i y x h n hp=>?_⟩
 ·refine pairwise_iff_getElem.mpr fun i j hi hj hij e=>?_
  have li:i<m.parts.length:=by simpa [nmsOf]using hi
  have lj:j<m.parts.length:=by simpa [nmsOf]using hj
  have ei:=Yx G li;have ej:=Yx G lj;rw[List.getElem?_eq_getElem hi]at ei;rw[List.getElem?_eq_getElem hj]at ej;have:=nmd i j li lj ((Option.some.inj ei).symm.trans (e.trans (Option.some.inj ej)));omega
 ·obtain⟨_,o⟩:=G.ps i p hp;have hi:=(List.getElem?_eq_some_iff.mp hp).1;have f:=o.f;generalize p.2=fm at f;cases fm with
  | hold n=>exact⟨(fun x h=>nomatch h),Nat.zero_le _⟩
  | ring x n=>exact⟨(fun x h=>nomatch h),Nat.zero_le _⟩
  | rise x v n=>exact⟨(fun x h=>nomatch h),Nat.zero_le _⟩
  | row ps=>
   obtain⟨is,⟨rfl,hlt⟩,h1,h2,_⟩:=f;refine⟨fun x hx=>?_,by show(is.map m.nm).length<=8;rw[length_map];exact h2⟩;obtain⟨j,hj,rfl⟩:=mem_map.mp (show x∈is.map m.nm from hx);exact⟨j,hlt j hj,Yx G (by have:=hlt j hj;omega)⟩
  | side ps=>
   obtain⟨is,⟨rfl,hlt⟩,h1,h2,_⟩:=f;refine⟨fun x hx=>?_,by show(is.map m.nm).length<=8;rw[length_map];omega⟩;obtain⟨j,hj,rfl⟩:=mem_map.mp (show x∈is.map m.nm from hx);exact⟨j,hlt j hj,Yx G (by have:=hlt j hj;omega)⟩
  | again k x=>
   obtain⟨h1,h2,j,hj,rfl,_⟩:=f;refine⟨fun y hy=>?_,by show 1<=8;decide⟩;have e:y=m.nm j:=mem_singleton.mp (show y∈[m.nm j]from hy);rw[e];exact⟨j,hj,Yx G (by omega)⟩
 ·obtain⟨_,o⟩:=G.ps i _ hp;obtain⟨⟨j,v',hj,_⟩,_⟩:=o.f;exact⟨j,by unfold nmsOf;rw[List.getElem?_map,hj];rfl⟩
inductive sp_numbers_of(vs:List V)(H:Hp)(Q:VK)(xk:XK):Prop
 | mk (l:Addr) (as:List Addr) (xs:List Str) (_:vs=[.ref l]) (_:H l=some (.lst (as.map V.ref))) (_:as.length=xs.length) (_:(∀(i:Nat) (a:Addr) (x:Str),as[i]?=some a->xs[i]?=some x->∃r,H a=some (.tup [.str x,r]))) (_:xs.Nodup) (_:xs.length<=100) (_:∀(d:Addr) (H':Hp),Same H H'->H d=none->H' d=some (.dK (numK xs))->Q (.ref d) H'):sp_numbers_of vs H Q xk
theorem All2.monoM{α:Type}{R S:Addr->α->Prop}{as:List Addr}{xs:List α}(h:All2 R as xs)(k:∀a∈as,∀x,R a x->S a x):All2 S as xs:=⟨h.1,fun i a x h1 h2=>k a (mem_of_getElem? h1) x (h.2 i a x h1 h2)⟩
theorem Jn{xs:List V}{i:Nat}{x:V}(h:xs[i]?=some x):atI xs (0+(i:Int))=some x:=by
 obtain⟨hi,rfl⟩:=List.getElem?_eq_some_iff.mp h;rw[Int.zero_add];unfold atI;simp[hi,ixN]
end Rm
namespace L2
open PySem PySem.Spec PySem.W PyProof.Rows
theorem Ka:∀{ys:List V} {us:List Value},us.length=ys.length->(∀(j:Nat) (u:Value),us[j]?=some u->∃y,ys[j]?=some y/\RelV y u)->Vals ys us
 | [],[],_,_=>.nil
 | [],_::_,h,_=>by simp at h
 | _::_,[],h,_=>by simp at h
 | y::ys,u::us,h,q=>by
  obtain⟨y',e,r⟩:=q 0 u rfl;simp only[List.getElem?_cons_zero,Option.some.injEq]at e;subst e;exact .cons r (Ka (by simpa using h) fun j u hu=>by simpa using q (j+1) u (by simpa using hu))
section
variable{X:Cx}
end
open PySem PySem.Spec PyProof.Rows
section
variable{prog:Program}{w:World}{A:Around}{E:Value->Shared->Prop}{s:Shared}
end
theorem ku{P:Nat->Value->Prop}:∀{xs:List V} {us:List Value},us.length=xs.length->(∀(i:Nat) v,us[i]?=some v->P i v)->(∀(i:Nat) (v:Value) (x:V),P i v->xs[i]?=some x->RelV x v)->Vals xs us:=by
 intro xs
 induction xs generalizing P with
 | nil=>
  intro us h _ _;rw[List.length_eq_zero_iff.mp h];exact .nil
 | cons x r ih=>
  intro us h h1 h2;cases us with
  | nil=>exact absurd h (by simp)
  | cons u us=>
   refine .cons (h2 0 u x (h1 0 u rfl) rfl) (ih (P:=fun i v=>P (i+1) v) (by simpa using h) (fun i v e=>h1 (i+1) v (by simpa using e)) fun i v y p e=>h2 (i+1) v y p (by simpa using e))
def tLR(ta:TA):TE:=fun σ H Q=>ta σ H fun vs H1=>∃n:Nat,vs=[.int (n:Nat)]/\n<=10^6/\∀p,H1 p=none->Q (.ref p) (upd H1 p (.lst ((List.range n).map fun u:Nat=>V.int (u:Nat))))
theorem xQ{ta:TA}{σ:St}{H:Hp}{Q:VK}(h:ta σ H fun vs H1=>∃n:Nat,vs=[.int (n:Nat)]/\n<=10^6/\∀p,H1 p=none->Q (.ref p) (upd H1 p (.lst ((List.range n).map fun u:Nat=>V.int (u:Nat))))):tLR ta σ H Q:=h
theorem kj{X:Cx}{a:Expr}{ta:TA}{p p' pos pos':Pos}(hc:X.calm=true)(hgl:Gl X "list")(hml:X.mg "list"= none)(hgz:Gl X "range")(hmz:X.mg "range"= none)(ha:PA X [a] ta)
  (hs0:starEach [.Call (.Name "range" p') [a] [] pos'] X.env=[(false,eval (.Call (.Name "range" p') [a] [] pos') X.env)]:=by rfl)
  (hs:starEach [a] X.env=[(false,eval a X.env)]:=by rfl) :
  PE X (.Call (.Name "list" p) [.Call (.Name "range" p') [a] [] pos'] [] pos) (tLR ta):=by
 intro pins s σ H Q I h;refine wpAny_Call_Name_kw (QE I hgl hml Zk ?_);refine PyProof.Rows.callWith_type1 ?_ hs0 rfl;rw[hs0];refine Calls.spliced_cons ?_;refine Call_ (QE I hgz hmz boot_range (PyProof.Rows.callWith_type1 (thn (ha pos' pins s σ H _ I h) fun us s1 ⟨vs,H1,I1,r1,q1⟩=>?_) hs rfl));obtain⟨n,rfl,hn,q⟩:=q1;obtain⟨u,rfl,t,rfl⟩:=vals1 r1;refine call_range_1 ?_;refine Calls.spliced_nil ?_;have ne:Builtin.Range.rangeSize 0 (n:Int) 1=((n:Nat):Int):=by rw[rangeSize_one];split<;>omega
 have sl:(10^6:Nat)<=2^24:=by decide
 refine call_list_range (n:=n) (I1.ok.hd hc) (IsRange.new ..) (small_one (by omega) (by omega) (by omega) (by omega)) ne (by omega) fun h' tk acc' c' kp e items=>?_
 have kp2:∀b o,s1.heap.get? b=some o->h'.get? b=some o:=fun b o e=>kp b o (Heap.get?_push_of_some _ e)
 have le:s1.heap.objs.size<=(s1.heap.push {cls:=.type "range",data:=.fields #[.int 0 s1.toks,.int n t,.int 1 (s1.toks+1)]}).objs.size:=by rw[Heap.size_push];exact Nat.le_succ _
 have vl:Vals ((List.range n).map fun u:Nat=>V.int (u:Nat)) acc'.toList:=by
  refine ku (P:=fun i v=>∃t,v=Value.int (0+(i:Int)*1) t) (by rw[Array.length_toList,items.1,length_map,length_range]) (fun i v e=>items.2 i v (by simpa using e)) fun i v x hp hx=>?_
  rw[List.getElem?_map]at hx;obtain⟨k,hk,rfl⟩:=Option.map_eq_some_iff.mp hx;obtain⟨t,rfl⟩:=hp;have kl:=(List.getElem?_eq_some_iff.mp hk).1;rw[length_range]at kl;rw[List.getElem?_range kl]at hk;cases hk;exact⟨t,by simp⟩
 have sz:(10^6:Nat)<=sizeLine:=by decide
 refine⟨.ref _,_,I1.laid (t':=tk) kp2 le (show ObjOk X.prog X.w _ h' _ (.lst ((List.range n).map fun u:Nat=>V.int (u:Nat)))from⟨by rw[length_map,length_range];omega,acc'.toList,c',vl,by simpa using e⟩),rfl,q _ (I1.hok.fresh le)⟩
noncomputable abbrev NI:=Sum Key (List Key)
noncomputable abbrev NK:=List NI
section
variable(P:Program)(w:World)
inductive ItN(h:Heap):NK->List Value->Prop
 | nil:ItN h [] []
 | key {k:Key} {v:Value} {ks:NK} {vs:List Value}:keyIs k v=true->ItN h ks vs->ItN h (Sum.inl k::ks) (v::vs)
 | tup {kk:List Key} {b:Addr} {ks:NK} {vs:List Value}:IsTupleKey (mixKind P w) h kk b->ItN h ks vs->ItN h (Sum.inr kk::ks) (.ref b::vs)
def IsN(h:Heap)(ks:NK)(a:Addr):Prop:=∃o items n,h.get? a=some o/\o.cls = .type "tuple"/\o.data = .seq items n/\ItN P w h ks items.toList
end
section
variable{P:Program}{w:World}{h h':Heap}
theorem ItN.inj:∀{x y:NK} {vs:List Value},ItN P w h x vs->ItN P w h y vs->x=y
 | _,_,_,.nil,q=>by cases q;rfl
 | _,_,_,.key a r,q=>by
  cases q with
  | key b t=>rw[(mixKind P w).inj _ _ _ a b,r.inj t]
  | tup b t=>exact absurd ((mixKind P w).byValue _ _ a) (by simp[carriedByValue])
 | _,_,_,.tup a r,q=>by
  cases q with
  | key b t=>exact absurd ((mixKind P w).byValue _ _ b) (by simp[carriedByValue])
  | tup b t=>rw[a.inj b,r.inj t]
theorem ItN.keeps{d:Addr}{o:Obj}{es ep}(ho:h.get? d=some o)(hd:o.data = .dict es ep)(hs:Heap.SameBut d h h'):∀{x:NK} {vs:List Value},ItN P w h x vs->ItN P w h' x vs
 | _,_,.nil=>.nil
 | _,_,.key a r=>.key a (r.keeps ho hd hs)
 | _,_,.tup a r=>.tup (a.keeps ho hd hs) (r.keeps ho hd hs)
noncomputable def itH(w:World)(P:Program):NI->Int
 | .inl k=>keyH w k
 | .inr kk=>tupleKeyHash (mixKind P w) kk
noncomputable def itD:NI->Nat
 | .inl _=>1
 | .inr kk=>kk.length+1
noncomputable def dsN:NK->Nat
 | []=>1
 | x::r=>itD x+dsN r
noncomputable def hashN(w:World)(P:Program)(ks:NK):Int:=reduceHash (Builtin.Tuple.tupleHashOf (ks.map (itH w P)))
theorem IsN.typeIs{s:Shared}{ks:NK}{a:Addr}(x:IsN P w s.heap ks a):s.TypeIs (.ref a) "tuple":=let ⟨o,_,_,ho,hc,_⟩:=x;⟨o,ho,hc⟩
section
variable{A:Around}{E:Value->Shared->Prop}{s:Shared}
theorem Wg{x:NI}{ks:NK}{v:Value}{vs:List Value}{Q:Int->Shared->Prop}(hu:A.units<cLine)(i:ItN P w s.heap (x::ks) (v::vs))(h:Q (itH w P x) {s with toks:=s.toks+itD x}):wpAny (model P w) A (pyHash v) Q E s:=by
 cases i with
 | key a r=>exact(mixKind P w).pyHash a h
 | tup a r=>exact wpAny_pyHash_tuple hu a h
theorem kE(x:NI):∀ks:NK,dsN (ks++[x])=dsN ks+itD x
 | []=>by show itD x+1=1+itD x;omega
 | y::r=>by show itD y+dsN (r++[x])=itD y+dsN r+itD x;rw[kE x r];omega
theorem xb{ks:NK}{a:Addr}{Q:Int->Shared->Prop}(hu:A.units+60<cLine)(hk:IsN P w s.heap ks a)(h:Q (hashN w P ks) {s with toks:=s.toks+dsN ks}):wpAny (model P w) A (pyHash (.ref a)) Q E s:=by
 have T:=hk.typeIs;obtain⟨o,items,n,ho,_,hd,hi⟩:=hk;have hu0:A.units<cLine:=by omega
 unfold pyHash
 first | unfold pyHashByItsType | skip
 first | refine wpAny_bind (wpAny_cRoomFor_or (.inr hu0) ?_) | skip
 refine wpAny_bind (wpAny_specialOf T F.slot_tuple_hash.lookup ?_);show wpAny _ _ (if(some (Value.builtin "tuple.__hash__")==some Value.none)=true then _ else _) Q E s;rw[if_neg (by rw[beq_builtin_none];exact Bool.false_ne_true)];refine wpAny_bind (wpAny_specialOf T F.slot_tuple_hash.lookup ?_);show wpAny _ _ (callSpecialIfBoundUnlessNone? (.ref a) "__hash__" _ >>= _) Q E s;refine wpAny_bind (wpAny_callSpecialIfBoundUnlessNone?_slot T F.slot_tuple_hash (wpAny_call_entry F.slot_tuple_hash T F.entry_tuple_hash ?_ (F.args_tuple_hash_1 _)));show wpAny _ _ (Builtin.Tuple.tupleItemsOf (.ref a) >>= _) _ _ s;refine wpAny_bind (wpAny_tupleItemsOf ho hd ?_);refine wpAny_bind ?_;rw[<-Array.forIn_toList];refine wpAny_forIn_list _ (fun rest (b:Array Int) s'=>∃done left:NK,ks=done++left/\ItN P w s.heap left rest/\b.toList=done.map (itH w P)/\s'={s with toks:=s.toks+(dsN done-1)}) _ ?_ ?_ _ _ ⟨[],ks,rfl,hi,rfl,rfl⟩
 ·rintro x rest b s' ⟨done,left,rfl,hl,hb,rfl⟩;have one:∀y:NI,1<=itD y:=fun y=>by cases y<;>simp[itD]
  have pos:∀l:NK,1<=dsN l:=fun l=>by
   cases l with
   | nil=>exact Nat.le_refl _
   | cons y r=>exact Nat.le_trans (one y) (Nat.le_add_right _ _)
  cases left with
  | nil=>cases hl
  | cons y ks'=>
   have hr:ItN P w s.heap ks' rest:=by cases hl with
    | key a r=>exact r
    | tup a r=>exact r
   have fin:s.toks+(dsN done-1)+itD y=s.toks+(dsN (done++[y])-1):=by rw[kE];have:=pos done;omega
   refine wpAny_bind (Wg (s:={s with toks:=s.toks+(dsN done-1)}) (by show A.units+1<cLine;omega) hl ?_)
   first
    | exact wpAny_pure ⟨done++[y],ks',by simp,hr,by simp[hb],by rw[<-fin]⟩
    | exact wpAny_bind (wpAny_pure (wpAny_pure ⟨done++[y],ks',by simp,hr,by simp[hb],by rw[<-fin]⟩))
 ·rintro b s' ⟨done,left,rfl,hl,hb,rfl⟩;cases hl;rw[append_nil]at h;have pos:1<=dsN done:=by
   cases done with
   | nil=>exact Nat.le_refl _
   | cons y r=>cases y<;>simp only[dsN,itD]<;>omega
  have e1:s.toks+(dsN done-1)+1=s.toks+dsN done:=by omega
  show wpAny _ _ (retInt (Builtin.Tuple.tupleHashOf b.toList)) _ _ _;rw[hb];refine wpAny_ret_mkInt ?_;show wpAny _ _ (if(decide (-(2:Int)^63<=Builtin.Tuple.tupleHashOf (done.map (itH w P)))&&decide (Builtin.Tuple.tupleHashOf (done.map (itH w P))<2^63))=true then _ else _) Q E _;unfold hashN reduceHash at h;by_cases hr:(decide (-(2:Int)^63<=Builtin.Tuple.tupleHashOf (done.map (itH w P)))&&decide (Builtin.Tuple.tupleHashOf (done.map (itH w P))<2^63))=true
  ·rw[if_pos hr];rw[if_pos hr]at h;exact wpAny_pure (by simpa [e1]using h)
  ·rw[if_neg hr];rw[if_neg hr]at h;exact wpAny_bind (wpAny_rule (wpAny_pure (by simpa [e1]using h)))
theorem xK{x y:NI}{ks ls:NK}{u v:Value}{us vs:List Value}(hu:A.units+1<cLine)(i:ItN P w s.heap (x::ks) (u::us))(j:ItN P w s.heap (y::ls) (v::vs)){Q:Bool->Shared->Prop}(h:Q (decide (x=y)) s):wpAny (model P w) A (eqBool u v) Q E s:=by
 have tt:∀{kk:List Key} {b:Addr},IsTupleKey (mixKind P w) s.heap kk b->∃its,s.heap.IsTuple b its:=fun⟨o,its,n,h1,h2,h3,_⟩=>⟨its,o,h1,h2,n,h3⟩
 cases i with
 | key a r=>
  cases j with
  | key b t=>
   refine(mixKind P w).eqBool a b ?_;rw[show decide (Sum.inl _=(Sum.inl _:NI))=decide _ from decide_eq_decide.mpr ⟨Sum.inl.inj,congrArg _⟩]at h;exact h
  | tup b t=>
   obtain⟨its,hb⟩:=tt b;rw[decide_eq_false (fun z=>nomatch z)]at h;rcases jU a with⟨i,t,rfl,rfl⟩ | ⟨x,t,rfl,rfl⟩
   ·exact SeqAt.EqAt.int_tuple i t hb (by omega) _ _ _ _ h
   ·exact SeqAt.EqAt.str_tuple x t hb (by omega) _ _ _ _ h
 | tup a r=>
  obtain⟨its,ha⟩:=tt a;cases j with
  | key b t=>
   rw[decide_eq_false (fun z=>nomatch z)]at h;rcases jU b with⟨i,t,rfl,rfl⟩ | ⟨x,t,rfl,rfl⟩
   ·exact SeqAt.EqAt.tuple_int i t ha (by omega) _ _ _ _ h
   ·exact SeqAt.EqAt.tuple_str x t ha (by omega) _ _ _ _ h
  | tup b t=>
   refine wpAny_eqBool_tuple (by omega) a b ?_;rw[show decide (Sum.inr _=(Sum.inr _:NI))=decide _ from decide_eq_decide.mpr ⟨Sum.inr.inj,congrArg _⟩]at h;exact h
theorem wb(hu:A.units+1<cLine):∀{x y:NK} {us vs:List Value},ItN P w s.heap x us->ItN P w s.heap y vs->∀(j:Nat) (h1:j<us.length) (h2:j<vs.length),∃(g1:j<x.length) (g2:j<y.length),∀(E:Value->Shared->Prop) (Q:Bool->Shared->Prop),Q (decide (x[j]=y[j])) s->wpAny (model P w) A (eqBool us[j] vs[j]) Q E s
 | [],_,_,_,i,_,j,h1,_=>by cases i;exact absurd h1 (Nat.not_lt_zero _)
 | _::_,[],_,_,_,i,j,_,h2=>by cases i;exact absurd h2 (Nat.not_lt_zero _)
 | x::xs,y::ys,[],_,i,_,_,_,_=>nomatch i
 | x::xs,y::ys,_::_,[],_,i,_,_,_=>nomatch i
 | x::xs,y::ys,u::us,v::vs,i,k,0,_,_=>⟨Nat.succ_pos _,Nat.succ_pos _,fun E Q h=>xK hu i k h⟩
 | x::xs,y::ys,u::us,v::vs,i,k,j+1,h1,h2=>by
  have i':ItN P w s.heap xs us:=by cases i with
   | key _ r=>exact r
   | tup _ r=>exact r
  have k':ItN P w s.heap ys vs:=by cases k with
   | key _ r=>exact r
   | tup _ r=>exact r
  obtain⟨g1,g2,q⟩:=wb hu i' k' j (Nat.lt_of_succ_lt_succ h1) (Nat.lt_of_succ_lt_succ h2);exact⟨Nat.succ_lt_succ g1,Nat.succ_lt_succ g2,fun E Q h=>q E Q h⟩
theorem ItN.length:∀{x:NK} {vs:List Value},ItN P w h x vs->x.length=vs.length
 | _,_,.nil=>rfl
 | _,_,.key _ r=>by rw[length_cons,length_cons,r.length]
 | _,_,.tup _ r=>by rw[length_cons,length_cons,r.length]
theorem W1{α:Type}[DecidableEq α]{x y:List α}{e:Nat->Bool}(he:∀j (h1:j<x.length) (h2:j<y.length),e j=decide (x[j]=y[j])):((List.range (min x.length y.length)).all e&&x.length==y.length)=decide (x=y):=by
 by_cases z:x=y
 ·subst z;rw[decide_eq_true rfl,Bool.and_eq_true];refine⟨all_eq_true.mpr fun j hj=>?_,by simp⟩;have hj:=mem_range.mp hj;rw[he j (by omega) (by omega)];simp
 ·rw[decide_eq_false z];cases e':((List.range (min x.length y.length)).all e&&x.length==y.length)with
  | false=>rfl
  | true=>
   rw[Bool.and_eq_true]at e';obtain⟨h1,h2⟩:=e';have h2:x.length=y.length:=by simpa using h2
   refine absurd (List.ext_getElem h2 fun j g1 g2=>?_) z;have:=all_eq_true.mp h1 j (mem_range.mpr (by omega));rw[he j g1 g2]at this;exact of_decide_eq_true this
theorem xT{x y:NK}{a b:Addr}{Q:Bool->Shared->Prop}(hu:A.units+60<cLine)(hx:IsN P w s.heap x a)(hy:IsN P w s.heap y b)(h:Q (decide (x=y)) s):wpAny (model P w) A (eqBool (.ref a) (.ref b)) Q E s:=by
 by_cases hab:a=b
 ·subst hab;obtain⟨o,its,n,ho,_,hd,hi⟩:=hx;obtain⟨o',its',n',ho',_,hd',hi'⟩:=hy;rw[ho]at ho';cases ho';rw[hd]at hd';cases hd';rw[hi.inj hi',decide_eq_true rfl]at h;exact SeqAt.EqAt.same _ P w E Q h
 ·have Ta:=hx.typeIs;have Tb:=hy.typeIs;obtain⟨⟨_,oa,_,sa⟩,its,n,ho,hc,hd,hi⟩:=id hx;obtain⟨⟨_,ob,_,sb⟩,jts,m,ho',hc',hd',hj⟩:=id hy;simp only at hc hd hc' hd';subst hc hd hc' hd';unfold eqBool;refine wpAny_holding ?_;refine wpAny_ite_split (fun z=>absurd (by have:=eq_of_beq z;injection this) hab) fun _=>?_
  have lx:x.length=its.size:=hi.length.trans Array.length_toList;have ly:y.length=jts.size:=hj.length.trans Array.length_toList
  let e:Nat->Bool:=fun j=>decide (x[j]?=y[j]?)
  have fin:((List.range (min its.size jts.size)).all e&&its.size==jts.size)=decide (x=y):=by
   rw[<-lx,<-ly];refine W1 fun j g1 g2=>?_
   show decide (x[j]?=y[j]?)=_;rw[List.getElem?_eq_getElem g1,List.getElem?_eq_getElem g2];exact decide_eq_decide.mpr ⟨Option.some.inj,congrArg _⟩
  refine wpAny_bind (wpAny_richCompare_same_room (op:=.Eq) Ta Tb F.slot_tuple_eq (wpAny_call_entry F.slot_tuple_eq Ta F.entry_tuple_eq ?_ (F.args_tuple_eq_2 _ _)) (by omega));show wpAny _ _ (isInstance (.ref b) (.type "tuple") >>= _) _ _ s;refine wpAny_bind (wpAny_isInstance Tb isSubtype_tuple_tuple ?_);simp only[Bool.not_true,Bool.false_eq_true,if_false];refine wpAny_bind (wpAny_tupleItemsOf ho rfl ?_);refine wpAny_bind (wpAny_tupleItemsOf ho' rfl ?_);refine wpAny_bind ?_;refine wpAny_forIn_list _ (fun rest r s'=>r.1=none/\s'=s/\∃k,rest=(List.zip its.toList jts.toList).drop k/\∀j,j<k->e j=true) _ ?_ ?_ _ _ ⟨rfl,rfl,0,rfl,fun j hj=>absurd hj (Nat.not_lt_zero _)⟩
  ·rintro⟨u,v⟩ rest r s' ⟨hr,rfl,k,hz,hk⟩;have hlt:k<(List.zip its.toList jts.toList).length:=by
    rcases Nat.lt_or_ge k (List.zip its.toList jts.toList).length with g | g
    ·exact g
    ·rw[List.drop_eq_nil_of_le g]at hz;cases hz
   rw[List.drop_eq_getElem_cons hlt]at hz;injection hz with hz1 hz2;rw[length_zip]at hlt;have l1:k<its.toList.length:=by omega
   have l2:k<jts.toList.length:=by omega
   rw[List.getElem_zip]at hz1;injection hz1 with eu ev;obtain⟨g1,g2,q⟩:=wb (A:=A.in1) (by show A.units+1+1<cLine;omega) hi hj k l1 l2;have ek:e k=decide (x[k]=y[k]):=by
    show decide (x[k]?=y[k]?)=_;rw[List.getElem?_eq_getElem g1,List.getElem?_eq_getElem g2];exact decide_eq_decide.mpr ⟨Option.some.inj,congrArg _⟩
   rw[eu,ev];refine wpAny_bind (q _ _ ?_);by_cases z:x[k]=y[k]
   ·rw[decide_eq_true z];simp only[Bool.not_true,Bool.false_eq_true,if_false];refine wpAny_pure ⟨rfl,rfl,k+1,hz2,fun j hj=>?_⟩;rcases Nat.lt_or_ge j k with g | g
    ·exact hk j g
    ·have:j=k:=by omega
     subst this;rw[ek,decide_eq_true z]
   ·rw[decide_eq_false z];simp only[Bool.not_false,if_true];have hf:decide (x=y)=false:=decide_eq_false fun g=>z (by subst g;rfl)
    rw[hf]at h;exact wpAny_bind (wpAny_pure (wpAny_pure (wpAny_pure ⟨_,rfl,(fun e=>nomatch e),wpAny_truthy_bool h⟩)))
  ·rintro⟨r1,r2⟩ s' ⟨hr,rfl,k,hz,hk⟩;simp only at hr;subst hr;have hge:(List.zip its.toList jts.toList).length<=k:=by
    rcases Nat.lt_or_ge k (List.zip its.toList jts.toList).length with g | g
    ·rw[List.drop_eq_getElem_cons g]at hz;cases hz
    ·exact g
   rw[length_zip,Array.length_toList,Array.length_toList]at hge;have fin2:(its.size==jts.size)=decide (x=y):=by
    rw[<-fin,all_eq_true.mpr fun j hj=>hk j (by have:=mem_range.mp hj;omega),Bool.true_and]
   refine wpAny_pure ⟨_,rfl,(fun e=>nomatch e),wpAny_truthy_bool ?_⟩;rw[fin2];exact h
theorem KB{kk:List Key}{b:Addr}{n:Nat}{Q:Bool->Shared->Prop}(hk:IsTupleKey (mixKind P w) s.heap kk b)(h:Q true s):wpAny (model P w) A (eqIsQuiet (n+1) (.ref b)) Q E s:=by
 have T:=hk.typeIs;obtain⟨o,items,m,ho,_,hd,hi⟩:=hk;unfold eqIsQuiet;refine wpAny_bind (wpAny_specialOf T F.slot_tuple_eq.lookup ?_);show wpAny _ _ (isInstance (.ref b) (.type "tuple") >>= _) _ _ s;refine wpAny_bind (wpAny_isInstance T isSubtype_tuple_tuple ?_);simp only[Bool.not_true,Bool.false_eq_true,if_false];refine wpAny_bind (wpAny_seqItems ho hd ?_);refine wpAny_bind ?_;show wpAny _ _ (forIn items _ _) _ _ s;rw[<-Array.forIn_toList];refine wpAny_forIn_list _ (fun rest r s'=>r.1=none/\s'=s/\∀v∈rest,carriedByValue v=true) _ ?_ ?_ _ _ ⟨rfl,rfl,hi.byValue⟩
 ·rintro v rest r s' ⟨hr,rfl,hall⟩;rw[eqIsQuiet_byValue _ (hall v mem_cons_self)];refine wpAny_bind (wpAny_pure ?_);simp only[Bool.not_true,Bool.false_eq_true,if_false];exact wpAny_pure ⟨rfl,rfl,fun u hu'=>hall u (mem_cons_of_mem _ hu')⟩
 ·rintro⟨r1,r2⟩ s' ⟨hr,rfl,_⟩;simp only at hr;subst hr;exact wpAny_pure h
theorem WB{ks:NK}{a:Addr}{Q:Bool->Shared->Prop}(hk:IsN P w s.heap ks a)(h:Q true s):wpAny (model P w) A (eqIsQuiet 8 (.ref a)) Q E s:=by
 have T:=hk.typeIs;obtain⟨o,items,m,ho,_,hd,hi⟩:=hk;unfold eqIsQuiet;refine wpAny_bind (wpAny_specialOf T F.slot_tuple_eq.lookup ?_);show wpAny _ _ (isInstance (.ref a) (.type "tuple") >>= _) _ _ s;refine wpAny_bind (wpAny_isInstance T isSubtype_tuple_tuple ?_);simp only[Bool.not_true,Bool.false_eq_true,if_false];refine wpAny_bind (wpAny_seqItems ho hd ?_);refine wpAny_bind ?_;show wpAny _ _ (forIn items _ _) _ _ s;rw[<-Array.forIn_toList];refine wpAny_forIn_list _ (fun rest r s'=>r.1=none/\s'=s/\∃ls:NK,ItN P w s.heap ls rest) _ ?_ ?_ _ _ ⟨rfl,rfl,ks,hi⟩
 ·rintro v rest r s' ⟨hr,rfl,ls,hl⟩;cases hl with
  | key z t=>
   rw[eqIsQuiet_byValue _ ((mixKind P w).byValue _ _ z)];refine wpAny_bind (wpAny_pure ?_);simp only[Bool.not_true,Bool.false_eq_true,if_false];exact wpAny_pure ⟨rfl,rfl,_,t⟩
  | tup z t=>
   refine wpAny_bind (KB z ?_);simp only[Bool.not_true,Bool.false_eq_true,if_false];exact wpAny_pure ⟨rfl,rfl,_,t⟩
 ·rintro⟨r1,r2⟩ s' ⟨hr,rfl,_⟩;simp only at hr;subst hr;exact wpAny_pure h
end
noncomputable def nestKind(P:Program)(w:World):HeapKind P w NK where
 is:=IsN P w
 hash:=hashN w P
 draws:=dsN
 room:=fun A=>A.units+60<cLine
 inj:=fun hx hy=>by
  obtain⟨o,its,n,ho,_,hd,hi⟩:=hx;obtain⟨o',its',n',ho',_,hd',hi'⟩:=hy;rw[ho]at ho';cases ho';rw[hd]at hd';cases hd';exact hi.inj hi'
 keeps:=fun {h h' k a d o es ep} x ho hd hs=>by
  obtain⟨o',its,n,ho',hc,hd',hi⟩:=x;have ne:a≠d:=fun z=>by
   rw[z,ho]at ho';cases ho';rw[hd]at hd';cases hd'
  exact⟨o',its,n,(hs.2 a ne).trans ho',hc,hd',hi.keeps ho hd hs⟩
 pyHash:=fun hu hk h=>xb hu hk h
 eqBool:=fun hu hx hy h=>xT hu hx hy h
 quiet:=fun hk h=>WB hk h
end
section
variable{prog:Program}{w:World}{K:Type}[DecidableEq K]{knd:HeapKind prog w K}{A:Around}{E:Value->Shared->Prop}{s:Shared}
theorem KG{d a:Addr}{xs:List (K×Addr×Value)}{k:K}{v:Value}{Q:Value->Shared->Prop}(hu:knd.room A)(hkey:knd.is s.heap k a)(hm:s.heap.DictOfH knd d xs)(hz:xs.length<=sizeLine)
  (h1:∀p,atKey xs k=some p->Q p.2 {s with toks:=s.toks+knd.draws k})
  (h2:atKey xs k=none->∀h',h'.DictOfH knd d (xs++[(k,a,v)])->Heap.SameBut d s.heap h'->Q v {s with heap:=h',toks:=s.toks+knd.draws k}) :
  wpAny (model prog w) A (dictSetDefault d (.ref a) v) Q E s:=by
 obtain⟨o,es,ep,ho,hc,hd,he,his,hn⟩:=hm;have hs:=size_of_entries he;unfold dictSetDefault
 try with_reducible refine wpAny_holding ?_
 refine wpAny_bind (knd.pyHash hu hkey ?_);refine wpAny_bind (wpAny_dictFind_heap (s:={s with toks:=s.toks+knd.draws k}) hu hkey ho hd he his hn (fun no=>?_) fun j p hj=>?_)
 ·have hnot:k∉xs.map (·.1):=not_mem_keys_of_get no;refine wpAny_bind (wpAny_rule (wpAny_bind (wpAny_updateDictKeys (hz:=by omega) (s:={s with toks:=s.toks+knd.draws k}) ho hd (wpAny_pure (h2 (atKey_none_of_get no) _ ⟨_,_,ep+1,Heap.get?_update_self _ ho (Obj.isFreed_of_dict (Obj.data_mapDictKeys hd _)),hc.mapDictKeys _,Obj.data_mapDictKeys hd _,?_,fun x hx=>?_,?_⟩ (Heap.SameBut.update ..))))))
  ·simp[he,entryOfKey]
  ·rcases mem_append.mp hx with hx | hx
   ·exact knd.keeps (his x hx) ho hd (Heap.SameBut.update ..)
   ·rw[mem_singleton.mp hx];exact knd.keeps hkey ho hd (Heap.SameBut.update ..)
  ·rw[map_append,nodup_append];refine⟨hn,by simp,fun x hx y hy z=>?_⟩;simp only[map_cons,map_nil,mem_singleton]at hy;exact hnot (hy▸z▸hx)
 ·refine wpAny_bind (wpAny_dictEntries (s:={s with toks:=s.toks+knd.draws k}) ho hd ?_);have e:es[j]?=some (entryOfKey knd (k,p)):=by rw[entry_at he j,hj];rfl
  rw[e];exact wpAny_bind (wpAny_rule (wpAny_pure (h1 p (atKey_of_get hn hj))))
theorem ko(d a:Addr)(hd:(d==sysModules)=false)(v:Value) :
  MeetsIn prog w (Builtin.«dict.setdefault» ⟨[.ref d,.ref a,v],[]⟩) (fun A R s=>knd.room A.in1/\∃k xs,knd.is s.heap k a/\s.heap.DictOfH knd d xs/\xs.length<=sizeLine/\
   (∀p,atKey xs k=some p->R (.ok (.ret p.2)) {s with toks:=s.toks+knd.draws k})/\
   (atKey xs k=none->∀h',h'.DictOfH knd d (xs++[(k,a,v)])->Heap.SameBut d s.heap h'->R (.ok (.ret v)) {s with heap:=h',toks:=s.toks+knd.draws k})):=
 .of_wp fun A R s ⟨hu,k,xs,hkey,hm,hz,h1,h2⟩=>by
  unfold Builtin.«dict.setdefault»;refine wpAny_bind ?_;unfold Builtin.Dict.keyAndDefault;refine wpAny_bind (wpAny_notOrdered_dict hm.typeIs ?_);show wpAny _ _ (pure (d,Value.ref a,some v)) _ _ s;refine wpAny_pure ?_;show wpAny _ _ (if(d==sysModules)=true then _ else(dictSetDefault d (.ref a) v >>= _)) _ _ s;rw[if_neg (by rw[hd];exact Bool.false_ne_true)];exact wpAny_bind (KG hu hkey hm hz (fun p hp=>wpAny_pure ⟨p.2,rfl,h1 p hp⟩) fun hn h' hm' hs'=>wpAny_pure ⟨v,rfl,h2 hn h' hm' hs'⟩)
def RawD(h:Heap)(d:Addr)(es:Array DictEntry)(ep:Nat):Prop:=∃o,h.get? d=some o/\o.ExactDict/\o.data = .dict es ep
theorem RawD.typeIs{d:Addr}{es:Array DictEntry}{ep:Nat}(x:RawD s.heap d es ep):s.TypeIs (.ref d) "dict":=let ⟨o,ho,hc,_⟩:=x;⟨o,ho,hc.1⟩
theorem wK{d:Addr}{es:Array DictEntry}{ep:Nat}{Q:Value->Shared->Prop}(hd:(d==sysModules)=false)(hm:RawD s.heap d es ep)
  (hQ:Q (.ref s.heap.objs.size) {s with heap:=s.heap.push {cls:=.type "dict_keyiterator",data:=.fields #[.ref d,.int 0 0,.int es.size 0,.int ep 0]}}) :
  wpAny (model prog w) A (pyIter (.ref d)) Q E s:=by
 have T:=hm.typeIs;obtain⟨o,ho,hc,hdat⟩:=hm;refine wpAny_pyIter_slot T F.slot_dict_iter (wpAny_call_entry F.slot_dict_iter T F.entry_dict_iter ?_ (F.args_dict_iter_1 _));unfold Builtin.«dict.__iter__»;refine wpAny_bind ?_;unfold Builtin.Dict.dictSlotNone;refine wpAny_bind (wpAny_notOrdered_dict T ?_);show wpAny _ _ (pure (Value.ref d)) _ _ s;refine wpAny_pure ?_;show wpAny _ _ (Builtin.Dict.showsAll d >>= _) _ _ s;unfold Builtin.Dict.showsAll;rw[if_neg (by rw[hd];exact Bool.false_ne_true)];refine wpAny_bind (wpAny_pure ?_);refine wpAny_bind (wpAny_dictEntries ho hdat ?_);refine wpAny_bind (wpAny_dictEpoch ho hdat ?_);refine wpAny_bind (wpAny_newObj_type (wpAny_pure ⟨_,rfl,"dict_keyiterator",_,⟨_,Heap.get?_push_size _ rfl,rfl⟩,F.slot_dict_keyiterator_next.lookup,?_⟩));simpa [rawInt]using hQ
theorem wJ{it d:Addr}{i ep:Nat}{es:Array DictEntry}{e:DictEntry}{Q:Option Value->Shared->Prop}(hit:s.heap.IsKeyIter it d i es.size ep)(hm:RawD s.heap d es ep)(hx:es[i]?=some e)
  (hQ:∀h',h'.IsKeyIter it d (i+1) es.size ep->Heap.SameBut it s.heap h'->Q (some e.key) {s with heap:=h'}):wpAny (model prog w) A (pyNext (.ref it)) Q E s:=by
 obtain⟨o,ho,hc,hd⟩:=id hit;obtain⟨od,hod,hcd,hdd⟩:=hm;unfold pyNext;refine wpAny_bind (wpAny_attempt (wpAny_callSpecial?_slot (name:=Str.ofString "__next__") hit.typeIs F.slot_dict_keyiterator_next (wpAny_call_entry F.slot_dict_keyiterator_next hit.typeIs F.entry_dict_keyiterator_next ?_ (F.args_dict_keyiterator_next_1 _))));refine wpAny_bind (wpAny_pure ?_);refine wpAny_bind ?_;refine wpAny_bind ?_
 first | refine wpAny_bind (wpAny_typeNameOfWhole_keyiter hit.typeIs (wpAny_pure ?_)) | refine wpAny_bind (wpAny_typeNameOf_keyiter hit.typeIs (wpAny_pure ?_))
 refine wpAny_bind (wpAny_fieldsOf ho hd ?_);have hown:Builtin.Dict_items.ownsTuple "dict_keyiterator"= false:=by decide
 simp only[hown,Bool.false_eq_true,if_false];show wpAny _ _ (if(Value.ref d==Value.none)=true then _ else _) _ _ s;rw[if_neg (show¬((Value.ref d==Value.none)=true)from Bool.false_ne_true)];refine wpAny_bind (wpAny_pure (wpAny_bind (wpAny_dictEntries hod hdd ?_)));rw[if_neg (by simp)];refine wpAny_bind (wpAny_pure (wpAny_bind (wpAny_dictEpoch hod hdd ?_)));rw[if_neg (by simp)];refine wpAny_pure ?_;simp only[show¬((i:Int)<0)from by omega,if_false,Int.toNat_natCast,hx];refine wpAny_bind ?_
 first | refine wpAny_bind (wpAny_typeNameOfWhole_keyiter hit.typeIs (wpAny_pure ?_)) | refine wpAny_bind (wpAny_typeNameOf_keyiter hit.typeIs (wpAny_pure ?_))
 refine wpAny_bind (wpAny_isOneOf_keyiter hit.typeIs ?_);show wpAny _ _ (setField (.ref it) 1 (rawInt ((i:Int)+1)) >>= _) _ _ s;refine wpAny_bind (wpAny_setField ho hd (by simp) ?_);have hit':(s.heap.update it (Obj.mapFields (·.setIfInBounds 1 (rawInt ((i:Int)+1))))).IsKeyIter it d (i+1) es.size ep:=
  ⟨_,Heap.get?_update_self _ ho (Obj.isFreed_of_fields (Obj.data_mapFields hd _)),(Obj.cls_mapFields ..).trans hc,by rw[Obj.data_mapFields hd];simp[rawInt]⟩
 refine wpAny_bind (wpAny_holding ?_);refine wpAny_bind (wpAny_isOneOf_keyiter (s:={s with heap:=s.heap.update it (Obj.mapFields (·.setIfInBounds 1 (rawInt ((i:Int)+1))))}) hit'.typeIs ?_);show wpAny _ _ (pure e.key) _ _ _;exact wpAny_pure (wpAny_pure ⟨_,rfl,wpAny_pure (hQ _ hit' (Heap.SameBut.update ..))⟩)
theorem WC{it d:Addr}{ep:Nat}{es:Array DictEntry}{Q:Option Value->Shared->Prop}(hh:A.handled=none)(hit:s.heap.IsKeyIter it d es.size es.size ep)(hm:RawD s.heap d es ep)
  (hQ:∀h',Heap.ExtBut it s.heap h'->Q none {s with heap:=h'}):wpAny (model prog w) A (pyNext (.ref it)) Q E s:=by
 obtain⟨o,ho,hc,hd⟩:=id hit;obtain⟨od,hod,hcd,hdd⟩:=hm;unfold pyNext;refine wpAny_bind (wpAny_attempt (wpAny_callSpecial?_slot (name:=Str.ofString "__next__") hit.typeIs F.slot_dict_keyiterator_next (wpAny_call_entry F.slot_dict_keyiterator_next hit.typeIs F.entry_dict_keyiterator_next ?_ (F.args_dict_keyiterator_next_1 _))));refine wpAny_bind (wpAny_pure ?_);refine wpAny_bind ?_;refine wpAny_bind ?_
 first | refine wpAny_bind (wpAny_typeNameOfWhole_keyiter hit.typeIs (wpAny_pure ?_)) | refine wpAny_bind (wpAny_typeNameOf_keyiter hit.typeIs (wpAny_pure ?_))
 refine wpAny_bind (wpAny_fieldsOf ho hd ?_);have hown:Builtin.Dict_items.ownsTuple "dict_keyiterator"= false:=by decide
 simp only[hown,Bool.false_eq_true,if_false];show wpAny _ _ (if(Value.ref d==Value.none)=true then _ else _) _ _ s;rw[if_neg (show¬((Value.ref d==Value.none)=true)from Bool.false_ne_true)];refine wpAny_bind (wpAny_pure (wpAny_bind (wpAny_dictEntries hod hdd ?_)));rw[if_neg (by simp)];refine wpAny_bind (wpAny_pure (wpAny_bind (wpAny_dictEpoch hod hdd ?_)));rw[if_neg (by simp)];refine wpAny_pure ?_;simp only[show¬((es.size:Int)<0)from by omega,if_false,Int.toNat_natCast,Array.getElem?_eq_none (Nat.le_refl es.size)];refine wpAny_bind ?_
 first | refine wpAny_bind (wpAny_typeNameOfWhole_keyiter hit.typeIs (wpAny_pure ?_)) | refine wpAny_bind (wpAny_typeNameOf_keyiter hit.typeIs (wpAny_pure ?_))
 show wpAny _ _ (setField (.ref it) 0 .none >>= _) _ _ s;refine wpAny_bind (wpAny_setField ho hd (by simp) ?_);show wpAny _ _ (newExc (.type "StopIteration") [] >>= _) _ _ _;refine wpAny_bind ?_;simp only[newExc,newTuple];refine wpAny_bind (wpAny_newObj_type ?_ (by size_fits));refine wpAny_bind (m:=firstArgMember _ _) (wpAny_of_eq (a:=Value.none) (by first | rfl | (simp only[firstArgMember];rfl)) ?_);refine wpAny_newObj_type ?_ (by size_fits);simp only[raiseNew];refine wpAny_bind (wpAny_handled ?_);rw[show A.in1.handled=none from hh];refine wpAny_bind (wpAny_pure (wpAny_throw ?_));refine wpAny_bind (wpAny_isInstance (T:="StopIteration") (b:=true) ⟨_,Heap.get?_push_size _ rfl,rfl⟩ isSubtype_stop ?_);exact wpAny_pure (hQ _ (((Heap.SameBut.update ..).extBut.push _).push _))
theorem RawD.at'{h h':Heap}{d:Addr}{es:Array DictEntry}{ep:Nat}(x:RawD h d es ep)(e:∀o,h.get? d=some o->h'.get? d=some o):RawD h' d es ep:=let ⟨o,ho,r⟩:=x;⟨o,e _ ho,r⟩
theorem RawD.lt{h:Heap}{d:Addr}{es:Array DictEntry}{ep:Nat}(x:RawD h d es ep):d<h.objs.size:=let ⟨_,ho,_⟩:=x;Heap.lt_size ho
theorem KD(hh:A.handled=none)(I d:Addr)(hne:d≠I)(es:Array DictEntry)(ep:Nat) :
  Walks prog w A I [I,d] [I] es.size (fun i v=>∃e,es[i]?=some e/\v=e.key) (fun i h=>h.IsKeyIter I d i es.size ep/\RawD h d es ep) where
 sub:=fun b hb=>by simp at hb;simp[hb]
 frame:=fun _ _ _ st hk=>⟨st.1.at fun o e=>hk I (by simp) o e,st.2.at' fun o e=>hk d (by simp) o e⟩
 item:=fun i s Q E hi st hQ=>wJ st.1 st.2 (Array.getElem?_eq_getElem hi) fun h' hit' hs'=>
  hQ _ h' s.toks ⟨_,Array.getElem?_eq_getElem hi,rfl⟩ ⟨hit',st.2.at' fun o e=>hs'.extBut d o hne e⟩ fun b o hb e=>hs'.extBut b o (fun h=>hb (by simp[h])) e
 done:=fun s Q E st hQ=>WC hh st.1 st.2 fun h' he'=>hQ h' s.toks fun b o hb e=>he' b o (fun h=>hb (by simp[h])) e
 self:=fun _ _ _ _ st hQ=>wpAny_pyIter_keyiter st.1 hQ
theorem WD{d:Addr}{es:Array DictEntry}{ep:Nat}(lo:(d==sysModules)=false):KdlSrc prog w "dict" d d es.size (fun i v=>∃e,es[i]?=some e/\v=e.key) (fun h=>RawD h d es ep) where
 type:=fun _ hm=>hm.typeIs
 there:=fun _ hm=>⟨hm.lt,hm.lt⟩
 keep:=fun _ _ hm hk=>hm.at' fun o e=>hk d (.inl rfl) o e
 notList:=by decide
 notTuple:=by decide
 hint:=fun _ _ _ _ hm hq=>kdl_hint_dict hm.typeIs hq
 iter:=fun _ _ hh hm=>⟨_,_,(fun _ _ hq=>wK lo hm hq),KD hh _ d (Nat.ne_of_lt hm.lt) es ep,⟨⟨_,Heap.get?_push_size _ rfl,rfl,rfl⟩,hm.at' fun o e=>Heap.get?_push_of_some _ e⟩⟩
end
inductive NVs(H:Hp):List V->NK->Prop
 | nil:NVs H [] []
 | key {k:Key} {vs:List V} {ks:NK}:NVs H vs ks->NVs H (kV k::vs) (Sum.inl k::ks)
 | tup {b:Addr} {kk:List Key} {vs:List V} {ks:NK}:H b=some (.tup (kk.map kV))->NVs H vs ks->NVs H (.ref b::vs) (Sum.inr kk::ks)
def NAt(H:Hp)(b:Addr)(ks:NK):Prop:=∃vs,H b=some (.tup vs)/\NVs H vs ks
section
variable{P:Program}{w:World}{H:Hp}{h:Heap}
theorem Y9(ok:HOk P w H h):∀{vs:List V} {ks:NK} {us:List Value},NVs H vs ks->Vals vs us->ItN P w h ks us
 | _,_,_,.nil,r=>by cases r;exact .nil
 | _,_,_,.key t,r=>by
  cases r with
  | cons r1 r2=>exact .key (yq (P:=P) (w:=w) r1) (Y9 ok t r2)
 | _,_,_,.tup e t,r=>by
  cases r with
  | cons r1 r2=>
   cases r1;exact .tup (ZC ok e) (Y9 ok t r2)
theorem we{b:Addr}{ks:NK}(ok:HOk P w H h)(x:NAt H b ks):IsN P w h ks b:=by
 obtain⟨vs,e,n⟩:=x;obtain⟨_,its,r,o,h1,h2,m,h3⟩:=(show ObjOk P w H h b (.tup vs)from ok b _ e)
 exact⟨o,its.toArray,m,h1,h2,h3,by simpa using Y9 ok n r⟩
end
noncomputable abbrev NE:=NK×Addr×V
noncomputable def DNx(P:Program)(w:World)(a:Addr)(xs:List NE):HO:=.ext fun h=>xs.length<=sizeLine/\(a==sysModules)=false/\(xs.map (·.1)).Nodup/\∃ys:List (NK×Addr×Value),
 Paired (fun(p:NE) (q:NK×Addr×Value)=>p.1=q.1/\p.2.1=q.2.1/\RelV p.2.2 q.2.2) xs ys/\∃es ep,RawD h a es ep/\es.toList=ys.map (entryOfKey (nestKind P w))
section
variable{P:Program}{w:World}{H:Hp}{h:Heap}{a:Addr}{xs:List NE}
theorem K7(z:xs.length<=sizeLine)(hd:(a==sysModules)=false)(hn:(xs.map (·.1)).Nodup){ys:List (NK×Addr×Value)}(r:Paired (fun(p:NE) (q:NK×Addr×Value)=>p.1=q.1/\p.2.1=q.2.1/\RelV p.2.2 q.2.2) xs ys)
  {es:Array DictEntry} {ep:Nat} (rw':RawD h a es ep) (e:es.toList=ys.map (entryOfKey (nestKind P w))):ObjOk P w H h a (DNx P w a xs):=by
 refine⟨⟨z,hd,hn,ys,r,es,ep,rw',e⟩,let ⟨o,ho,_⟩:=rw';⟨o,ho⟩,?_⟩;rintro h1 h2 ⟨z,hd,hn,ys,r,es,ep,rw',e⟩ k;exact⟨z,hd,hn,ys,r,es,ep,rw'.at' k,e⟩
def PNE(xs:List NE)(ys:List (NK×Addr×Value)):Prop:=Paired (fun(p:NE) (q:NK×Addr×Value)=>p.1=q.1/\p.2.1=q.2.1/\RelV p.2.2 q.2.2) xs ys
theorem PNE.keys:∀{xs:List NE} {ys:List (NK×Addr×Value)},PNE xs ys->ys.map (·.1)=xs.map (·.1)
 | _,_,.nil=>rfl
 | _,_,.cons r t=>by rw[map_cons,map_cons,r.1,PNE.keys t]
theorem PNE.length{xs:List NE}{ys:List (NK×Addr×Value)}(r:PNE xs ys):xs.length=ys.length:=by
 have:=congrArg List.length r.keys;rw[length_map,length_map]at this;exact this.symm
theorem PNE.snoc{k:NK}{b:Addr}{v:V}{u:Value}(r':RelV v u):∀{xs:List NE} {ys:List (NK×Addr×Value)},PNE xs ys->PNE (xs++[(k,b,v)]) (ys++[(k,b,u)])
 | _,_,.nil=>.cons ⟨rfl,rfl,r'⟩ .nil
 | _,_,.cons r t=>.cons r (PNE.snoc r' t)
theorem PNE.all{F:NK->Addr->Prop}:∀{xs:List NE} {ys:List (NK×Addr×Value)},PNE xs ys->(∀p∈xs,F p.1 p.2.1)->∀q∈ys,F q.1 q.2.1
 | _,_,.nil,_=>fun q hq=>nomatch hq
 | _,_,.cons (a:=x) r t,h=>fun q hq=>by
  rcases mem_cons.mp hq with rfl | hq
  ·have:=h _ mem_cons_self;rw[r.1,r.2.1]at this;exact this
  ·exact PNE.all t (fun p hp=>h p (mem_cons_of_mem _ hp)) q hq
theorem PNE.fnd{k:NK}:∀{xs:List NE} {ys:List (NK×Addr×Value)},PNE xs ys->(∀p,xs.find? (fun p=>decide (p.1=k))=some p->∃u,atKey ys k=some (p.2.1,u)/\RelV p.2.2 u)/\(xs.find? (fun p=>decide (p.1=k))=none->atKey ys k=none)
 | _,_,.nil=>⟨fun p e=>by simp at e,fun _=>rfl⟩
 | _,_,.cons (a:=x) (b:=y) (l₂:=m) r t=>by
  obtain⟨h1,h2⟩:=PNE.fnd (k:=k) t;by_cases e:x.1=k
  ·have e':y.1=k:=r.1▸e;refine⟨fun p q=>?_,fun q=>?_⟩
   ·rw[List.find?_cons,decide_eq_true e]at q;cases q;refine⟨y.2.2,?_,r.2.2⟩;unfold atKey;rw[List.find?_cons,decide_eq_true e',r.2.1];rfl
   ·rw[List.find?_cons,decide_eq_true e]at q;cases q
  ·have e':¬y.1=k:=r.1▸e;have z:atKey (y::m) k=atKey m k:=by
    unfold atKey;rw[List.find?_cons,decide_eq_false e']
   refine⟨fun p q=>?_,fun q=>?_⟩
   ·rw[List.find?_cons,decide_eq_false e]at q;rw[z];exact h1 p q
   ·rw[List.find?_cons,decide_eq_false e]at q;rw[z];exact h2 q
end
section
variable{X:Cx}
def tDNewN(P:Program)(w:World):TE:=fun _ H Q=>∀p,H p=none->Q (.ref p) (upd H p (DNx P w p []))
theorem wA{pos:Pos}:PE X (.Dict [] [] pos) (tDNewN X.prog X.w):=fun pins s σ H Q I h=>
 wpAny_Dict_empty ⟨.ref s.heap.objs.size,_,I.laid (a:=s.heap.objs.size) (o:=DNx X.prog X.w s.heap.objs.size []) (t':=s.toks) (fun _ _ q=>Heap.get?_push_of_some _ q) (Nat.le_refl _)
  (K7 (Nat.zero_le _) (beq_eq_false_iff_ne.mpr (Ne.symm (Nat.ne_of_lt I.big))) List.nodup_nil .nil (es:=#[]) (ep:=0) ⟨_,Heap.get?_push_size _ rfl,⟨rfl,rfl,rfl⟩,rfl⟩ rfl),rfl,h _ (I.hok.fresh (Nat.le_refl _))⟩
theorem wL{P:Program}{w:World}{σ:St}{H:Hp}{Q:VK}(h:∀p,H p=none->Q (.ref p) (upd H p (DNx P w p []))):tDNewN P w σ H Q:=h
theorem kC{pins:List (Addr×Obj)}{σ:St}{H:Hp}{s:Shared}{a:Addr}{xs:List NE}(I:Inv X pins σ H s)(e:H a=some (DNx X.prog X.w a xs)):xs.length<=sizeLine/\(a==sysModules)=false/\(xs.map (·.1)).Nodup/\∃ys,PNE xs ys/\∃es ep,RawD s.heap a es ep/\es.toList=ys.map (entryOfKey (nestKind X.prog X.w)):=
 (show ObjOk X.prog X.w H s.heap a (DNx X.prog X.w a xs)from I.hok a _ e).1
def tSetN(P:Program)(w:World)(to:TE)(t:TA):TE:=fun σ H Q=>to σ H fun x H1=>∃a xs1,x = .ref a/\H1 a=some (DNx P w a xs1)/\t σ H1 fun vs H2=>∃(xs:List NE) (b:Addr) (k:NK) (v:V),vs=[.ref b,v]/\H2 a=some (DNx P w a xs)/\(∀p∈xs,NAt H2 p.2.1 p.1)/\NAt H2 b k/\xs.length<sizeLine/\
 (∀p,xs.find? (fun p=>decide (p.1=k))=some p->Q p.2.2 H2)/\(xs.find? (fun p=>decide (p.1=k))=none->Q v (upd H2 a (DNx P w a (xs++[(k,b,v)]))))
theorem Wz{o e:Expr}{es:List Expr}{to:TE}{t:TA}{apos cpos:Pos}(hu:X.A.units+64<cLine)(ho:PE X o to)(ha:PA X (e::es) t)
  (hbase:attributeBase o "setdefault" X.env (eval o X.env)=eval o X.env:=by rfl)
  (hfew:((backTo cpos (starEach (e::es) X.env)).all (fun x=>!x.1)&&(backToKw cpos (keywordEach [] X.env)).all (fun x=>x.1.isSome)
   && decide ((e::es).length+([]:List Keyword).length+(if([]:List Keyword).isEmpty then 0 else 1)<30))=true:=by rfl)
  (hline:(apos.endLine==cpos.line)=true:=by rfl) (hs:starEach (e::es) X.env=(false,eval e X.env)::starEach es X.env:=by rfl) (hplain:(backTo cpos (starEach es X.env)).any (·.1)=false:=by rfl) :
  PE X (.Call (.Attribute o "setdefault" apos) (e::es) [] cpos) (tSetN X.prog X.w to t):=by
 intro pins s σ H Q I h;refine wpAny_Call_method_late hbase hfew hline rfl (thn (ho pins s σ H _ I h) fun v s1 ⟨x,H1,I1,r1,a,xs1,ex,e1,q1⟩=>?_);subst ex;cases r1;obtain⟨_,_,_,_,_,_,_,rw1,_⟩:=kC I1 e1;refine⟨"dict","dict.setdefault",PySem.F.plainAttrs_dict,PySem.F.slot_dict_setdefault,PySem.F.type_dict_setdefault,rw1.typeIs,fun b eb=>?_,?_⟩
 ·cases eb;obtain⟨ob,h1,h2,_⟩:=rw1;exact⟨ob,h1,h2.2.1⟩
 have hA:=ha cpos pins s1 σ H1 _ I1 q1;rw[hs]at hA|-;refine Calls.callWith_builtin (by show(false||(backTo cpos (starEach es X.env)).any (·.1))=false;rw[hplain]<;>rfl) (Calls.evalArgs_plain ?_);refine thn hA fun us s2 ⟨vs,H2,I2,r2,xs,b,k,v,ev,e2,all,nb,z,f1,f2⟩=>?_
 subst ev;cases r2 with
 | cons rb rr=>
  cases rb;obtain⟨u,rfl,ru⟩:=vals1 rr;obtain⟨z2,hd,hn,ys,pr,es',ep,rw2,he⟩:=kC I2 e2;have T2:=rw2.typeIs;obtain⟨o2,ho2,hc2,hd2⟩:=rw2;have dd:s2.heap.DictOfH (nestKind X.prog X.w) a ys:=⟨o2,es',ep,ho2,hc2,hd2,he,fun q hq=>pr.all (F:=fun k b=>IsN X.prog X.w s2.heap k b) (fun p hp=>we I2.hok (all p hp)) q hq,by rw[pr.keys];exact hn⟩
  have ln:=pr.length;obtain⟨g1,g2⟩:=pr.fnd (k:=k);refine call_meetsIn PySem.F.slot_dict_setdefault T2 PySem.F.entry_dict_setdefault (PySem.F.args_dict_setdefault_3 _ _ _) (ko (knd:=nestKind X.prog X.w) a b hd u) ⟨by show X.A.units+1+60<cLine;omega,k,ys,we I2.hok nb,dd,by omega,fun p hp=>?_,fun no h' dd' hs'=>?_⟩
  ·cases hf:xs.find? (fun p=>decide (p.1=k))with
   | none=>rw[g2 hf]at hp;cases hp
   | some p'=>
    obtain⟨u',hu',ru'⟩:=g1 p' hf;rw[hu']at hp;cases hp;exact⟨p'.2.2,H2,I2.tok _,ru',f1 p' hf⟩
  ·have hf:xs.find? (fun p=>decide (p.1=k))=none:=by
    cases hf:xs.find? (fun p=>decide (p.1=k))with
    | none=>rfl
    | some p'=>
     obtain⟨u',hu',_⟩:=g1 p' hf;rw[hu']at no;cases no
   obtain⟨o3,es3,ep3,ho3,hc3,hd3,he3,_,hn3⟩:=dd';rw[map_append,pr.keys]at hn3;refine⟨v,_,Zl (t':=s2.toks+_) I2 (by rw[e2];exact True.intro) hs' ⟨_,ho3⟩ (K7 (by rw[List.length_append,length_singleton];omega) hd (by rw[map_append];exact hn3) (pr.snoc ru) ⟨o3,ho3,hc3,hd3⟩ he3),ru,f2 hf⟩
theorem WF{P:Program}{w:World}{to:TE}{t:TA}{σ:St}{H:Hp}{Q:VK} (h:to σ H fun x H1=>∃a xs1,x = .ref a/\H1 a=some (DNx P w a xs1)/\t σ H1 fun vs H2=>∃(xs:List NE) (b:Addr) (k:NK) (v:V),vs=[.ref b,v]/\H2 a=some (DNx P w a xs)/\(∀p∈xs,NAt H2 p.2.1 p.1)/\NAt H2 b k/\xs.length<sizeLine/\
 (∀p,xs.find? (fun p=>decide (p.1=k))=some p->Q p.2.2 H2)/\(xs.find? (fun p=>decide (p.1=k))=none->Q v (upd H2 a (DNx P w a (xs++[(k,b,v)]))))):tSetN P w to t σ H Q:=h
theorem Ki:CallR X (.builtin "len") (fun xs H Q=>∃a ys,xs=[V.ref a]/\H a=some (DNx X.prog X.w a ys)/\Q (.int ys.length) H):=by
 intro pins s σ H xs us Q I r h;obtain⟨a,ys,rfl,ea,q⟩:=h;obtain⟨u,rfl,ru⟩:=vals1 r;cases ru;obtain⟨z,hd,hn,zs,pr,es,ep,rw',he⟩:=kC I ea;have T:=rw'.typeIs;obtain⟨o,ho,hc,hdat⟩:=rw';have ln:es.size=ys.length:=by rw[<-Array.length_toList,he,length_map,pr.length]
 have zz:=sizeLine_eq;refine Calls.call_function_entry kind_len plain_len entry_len (args_len1 _) ?_;unfold Builtin.«len»;refine wpAny_bind (m:=oneArg "len" _) (wpAny_pure ?_);have key:wpAny (model X.prog X.w) X.A.in1 (callSpecial? (.ref a) (Str.ofString "__len__")) (fun r s'=>r=some (.int ys.length s.toks)/\s'={s with toks:=s.toks+1}) X.xe s:=by
  refine wpAny_callSpecial?_slot (name:=Str.ofString "__len__") T F.slot_dict_len (wpAny_call_entry F.slot_dict_len T F.entry_dict_len ?_ (F.args_dict_len_1 _));show wpAny _ _ (dictSize a >>= _) _ _ s;unfold dictSize;refine wpAny_bind (wpAny_bind (wpAny_dictEntries ho hdat (wpAny_pure ?_)));show wpAny _ _ (Builtin.Dict.pendingCount a >>= _) _ _ s;refine wpAny_bind (wpAny_pendingCount_other hd ?_);refine wpAny_ret_mkInt ?_;rw[Nat.add_zero,ln];exact⟨rfl,rfl⟩
 refine wpAny_bind (wpAny_mono key (fun r s' h'=>?_) fun _ _ e=>e);obtain⟨rfl,rfl⟩:=h';show wpAny _ _ _ _ _ {s with toks:=s.toks+1};refine wpAny_bind (wpAny_holding (wpAny_pure ?_));refine wpAny_bind (wpAny_letGo ?_);show wpAny _ _ (if((ys.length:Nat):Int)<0 then _ else _) _ _ _;rw[if_neg (by omega)];show wpAny _ _ (if((ys.length:Nat):Int)>=2^63 then _ else _) _ _ _;rw[if_neg (by omega)];exact wpAny_bind (wpAny_mkInt (wpAny_pure ⟨_,rfl,.int ys.length,H,I.tok _,⟨_,rfl⟩,q⟩))
theorem Y1(hc:X.calm=true):CallR X (.type "list") (fun xs H Q=>∃(a:Addr) (ys:List NE),xs=[.ref a]/\H a=some (DNx X.prog X.w a ys)/\∀l,H l=none->Q (.ref l) (upd H l (.lst (ys.map fun q=>.ref q.2.1)))):=by
 intro pins s σ H xs us Q I r h;obtain⟨a,ys,rfl,ea,q⟩:=h;obtain⟨u,rfl,ru⟩:=vals1 r;cases ru;obtain⟨z,hd,hn,zs,pr,es,ep,rw',he⟩:=kC I ea;have ln:es.size=ys.length:=by rw[<-Array.length_toList,he,length_map,pr.length]
 refine kdl_call (WD (es:=es) (ep:=ep) hd) (I.ok.hd hc) rw' (by omega) fun h' tk acc' c' hk hS hacc=>?_
 have rv:Vals (ys.map fun q=>.ref q.2.1) acc'.toList:=Ka (by rw[Array.length_toList,length_map,<-ln];exact hacc.1) fun j u hu=>by
  obtain⟨e,e1,rfl⟩:=hacc.2 j u (by rw[<-Array.getElem?_toList];exact hu);rw[<-Array.getElem?_toList,he,List.getElem?_map]at e1;obtain⟨y,ey,rfl⟩:=Option.map_eq_some_iff.mp e1;have hj:j<ys.length:=by rw[pr.length];exact(List.getElem?_eq_some_iff.mp ey).1
  have all:∀{xs:List NE} {zs:List (NK×Addr×Value)} {j:Nat} {y:NK×Addr×Value} {x:NE},PNE xs zs->zs[j]?=some y->xs[j]?=some x->x.2.1=y.2.1:=by
   intro xs zs j y x p
   induction p generalizing j with
   | nil=>intro e;simp at e
   | cons r t ih=>
    cases j with
    | zero=>intro e1 e2;simp at e1 e2;subst e1 e2;exact r.2.1
    | succ j=>intro e1 e2;exact ih (by simpa using e1) (by simpa using e2)
  refine⟨.ref ys[j].2.1,by rw[List.getElem?_map,List.getElem?_eq_getElem hj];rfl,?_⟩;rw[all pr ey (List.getElem?_eq_getElem hj)];rfl
 refine⟨.ref s.heap.objs.size,_,I.laid (t':=tk) hk (Nat.le_refl _) (show ObjOk X.prog X.w _ h' _ (.lst (ys.map fun q=>.ref q.2.1))from⟨by rw[length_map];exact z,acc'.toList,c',rv,by rw[Array.toArray_toList];exact hS⟩),rfl,q _ (I.hok.fresh (Nat.le_refl _))⟩
theorem ka{K:Frg}(e:X.K=K)(hu:X.A.units+1<cLine):IxR X (fun x y H Q=>rIxL K x y H Q\/∃a v,x = .ref a/\DGet H a y (some v)/\Q v H):=by
 subst e;intro value slice pins s σ H x y v u Q I rx ry h hs;rcases h with h | ⟨a,v',rfl,g,q⟩
 ·exact jp value slice pins s σ H x y v u Q I rx ry h hs
 ·cases rx;have T:=Zb I g;unfold subscriptTail;refine wpAny_bind ?_;rw[getitemInPython_of_ne T.not_modules];refine wpAny_bind (wpAny_specialOf T PySem.F.slot_dict_getitem.lookup ?_);have fin:wpAny (model X.prog X.w) X.A (subscripted slice false (.ref a) u) (fun r s₃=>wpAny (model X.prog X.w) X.A (letTemporaryGo value (.ref a) r >>= fun _=>pure r) (EP X pins σ Q) X.xe s₃) X.xe s:=by
   rw[hs];exact wpAny_operating (ym hu I g ry fun w' s3 I3 rw'=>wpAny_bind (wpAny_letTemporaryGo (wpAny_pure ⟨v',H,I3,rw',q⟩)))
  first
   | exact wpAny_pure (wpAny_bind fin)
   | exact wpAny_bind (wpAny_pure (wpAny_bind fin))
   | exact wpAny_bind fin
end
theorem intsK{P:Program}{w:World}:∀{ks:List Int} {us:List Value},us.length=ks.length->(∀(j:Nat) (u:Value) (k:Int),us[j]?=some u->ks[j]?=some k->(mixKind P w).is (Sum.inl k) u=true)->IntsAre us ks
 | [],[],_,_=>.nil
 | [],_::_,h,_=>by simp at h
 | _::_,[],h,_=>by simp at h
 | k::ks,u::us,h,q=>by
  obtain⟨t,rfl⟩:=Value.isInt_shape (k:=k) (q 0 u k rfl rfl);exact .cons k t (intsK (P:=P) (w:=w) (by simpa using h) fun j u k hu hk=>q (j+1) u k (by simpa using hu) (by simpa using hk))
theorem Z0{X:Cx}(hc:X.calm=true):CallR X (.builtin "sorted") (fun xs H Q=>∃(d:Addr) (kvs:List (Key×V)) (ks:List Int),xs=[.ref d]/\H d=some (.dK kvs)/\kvs.map (·.1)=ks.map Sum.inl/\ks.length<64/\∀(l:Addr) (ms:List Int),H l=none->ms.Perm ks->ms.Pairwise (·<=·)->Q (.ref l) (upd H l (.lst (ms.map V.int)))):=by
 intro pins s σ H xs us Q I r h;obtain⟨d,kvs,ks,rfl,ed,hk,h64,q⟩:=h;obtain⟨u,rfl,ru⟩:=vals1 r;cases ru;obtain⟨z1,hd1,vs1,r1,dd1⟩:=K6 I.hok ed;obtain⟨ep,hat⟩:=dd1.dictAt;have kl:kvs.length=ks.length:=by have:=congrArg List.length hk;rw[length_map,length_map]at this;exact this
 have vl:=r1.length;refine Calls.call_function_entry kind_sorted plain_sorted entry_sorted (args_sorted1 _) ?_;unfold Builtin.«sorted»;refine wpAny_bind (m:=checkCount "sorted" 1 1 _) (wpAny_pure ?_);refine wpAny_bind (kdu_collect (A:=X.A.in1) (kdl_dict (knd:=mixKind X.prog X.w) (kvs:=vs1) (ep:=ep) hd1) (I.ok.hd hc) hat (by omega) fun h1 tk acc hk1 hacc=>?_);have al:acc.toList.length=ks.length:=by rw[Array.length_toList,hacc.1,<-vl,kl]
 have hI:IntsAre acc.toList ks:=intsK (P:=X.prog) (w:=X.w) al fun j u k hu hj=>by
  obtain⟨k',x,e,hk'⟩:=hacc.2 j u (by rw[<-Array.getElem?_toList];exact hu);have jl:j<kvs.length:=by rw[kl];exact(List.getElem?_eq_some_iff.mp hj).1
  obtain⟨y,e2,e3,_⟩:=r1.get (List.getElem?_eq_getElem jl);rw[e]at e2;cases e2;have e4:(kvs.map (·.1))[j]?=some k':=by rw[List.getElem?_map,List.getElem?_eq_getElem jl];exact congrArg some e3
  rw[hk,List.getElem?_map,hj]at e4;cases e4;exact hk'
 refine wpAny_bind (wpAny_newList ?_ (by rw[al,sizeLine_eq];omega));have hoL:(h1.push (seqObj "list" acc.toList.toArray 0)).get? h1.objs.size=some (seqObj "list" acc.toList.toArray 0):=Heap.get?_push_size _ rfl;refine wpAny_bind (wpAny_holding (wpAny_call_entry slot_list_sort ⟨_,hoL,rfl⟩ entry_list_sort (list_sort_tree hoL hI (by omega) fun out ms a1 a2 a3=>⟨_,rfl,?_⟩) (args_list_sort _)));refine wpAny_pure ⟨_,rfl,?_⟩;have ml:ms.length=ks.length:=a2.length_eq;have hn:=I.none_at hk1;have hb:=I.newB hk1;have k2:∀b o,s.heap.get? b=some o->(sortedHeap (h1.push (seqObj "list" acc.toList.toArray 0)) h1.objs.size acc.toList out).get? b=some o:=fun b o e=>by
  have lt:=Heap.lt_size (hk1 b o e);rw[sortedHeap_old (Nat.ne_of_lt lt) (by rw[size_push'];exact Nat.lt_succ_of_lt lt)];exact Heap.get?_push_of_some _ (hk1 b o e)
 obtain⟨e',he⟩:=sortedHeap_at (out:=out) hoL;refine⟨.ref h1.objs.size,_,(I.kept (t':=tk) k2).track hn hb (show ObjOk X.prog X.w _ _ _ (.lst (ms.map V.int))from⟨by rw[length_map];exact Nat.le_trans (Nat.le_of_lt (ml▸h64)) (by decide),out.toList,_,YV a1,by rw[Array.toArray_toList];exact he⟩),rfl,q _ ms hn a2 a3⟩
section
variable{H:Hp}
end
section
variable{X:Cx}
end
def It8(n:Nat):It:=⟨fun i _=>i<n,fun i H x H'=>H'=H/\x = .int ((8*i:Nat):Int),fun i _=>n<=i⟩
theorem YT{P:Program}{w:World}{K:Frg}{tg:Expr}(it:Addr)(n:Nat):Turn P w K tg (It8 n) [it] it (fun i h=>IsRangeIter h it (0+(i:Nat)*8) ((n:Int)-(i:Nat)) 8) where
 mem:=by simp
 obj:=fun i h st b hb=>by
  have e:b=it:=by simpa using hb
  subst e;exact⟨_,st,fun v z=>by
   have z':Data.fields _=Data.cell v:=z;cases z'⟩
 keep:=fun i h h' st k=>k it (by simp) _ st
 item:=by
  intro X hP hw hK hc i pins s σ H E I hf st hg;subst hP hw hK;obtain⟨f0,f1,f2,f3,f4,f5⟩:=hf it (by simp);have W:=Walks.range (prog:=X.prog) (w:=X.w) (I.ok.hd hc) it 0 8 n;refine W.item i s _ _ hg st fun v h' tk hv st' kk=>?_
  obtain⟨t,rfl⟩:=hv;have I1:Inv X pins σ H {s with heap:=h',toks:=tk}:=I.turned (fun b o hb e=>kk b o (by simpa using hb) e) f0 f1 f3 f4 f5;refine⟨_,rfl,Yn (s:={s with heap:=h',toks:=tk}) (n:="range_iterator") st' rfl rfl (by decide) ⟨.int ((8*i:Nat):Int),H,I1,⟨t,?_⟩,⟨rfl,rfl⟩,st',fun b hb=>(hf b hb).1⟩⟩;rw[show 0+(i:Int)*8=((8*i:Nat):Int) by omega]
 done:=by
  intro X hP hw hK hc i pins s σ H E I hf st hg;subst hP hw hK;obtain⟨f0,f1,f2,f3,f4,f5⟩:=hf it (by simp);exact wpAny_pyNext_range_end (I.ok.hd hc) st (by have:n<=i:=hg;omega) fun h' eb=>⟨rfl,I.turned (t':=s.toks) (fun b o hb e=>eb b o hb e) f0 f1 f3 f4 f5⟩
 self:=fun _ _ _ _ _ st h=>wpAny_pyIter_rangeiter st h
section
variable{X:Cx}{tg:Expr}
theorem size8(n:Nat):Builtin.Range.rangeSize 0 (n:Int) 8=((n+7)/8:Nat):=by
 unfold Builtin.Range.rangeSize;simp only[show((8:Int)>0) by decide,if_true];split<;>omega
theorem small8{n:Nat}(h:n<2^60):Builtin.Range.small 0 (n:Int) 8=true:=by
 have f:∀x:Int,-(2^62)<=x->x<2^62->Builtin.Range.rangeFitsLong x=true:=fun x h1 h2=>by
  unfold Builtin.Range.rangeFitsLong;simp;omega
 unfold Builtin.Range.small;rw[size8,f 0 (by decide) (by decide),f n (by omega) (by omega),f 8 (by decide) (by decide),f _ (by omega) (by omega),if_pos (show((8:Int)>0) by decide),f _ (by omega) (by omega)];simp
def iRng8(ta:TA):TI:=fun σ H R=>ta σ H fun vs H1=>∃n:Nat,vs=[.int 0,.int (n:Nat),.int 8]/\n<2^60/\R (It8 ((n+7)/8)) H1
theorem Kz{a b c:Expr}{ta:TA}{p pos:Pos}(hg:Gl X "range")(hm:X.mg "range"= none)(ha:PA X [a,b,c] ta)(hs:starEach [a,b,c] X.env=(false,eval a X.env)::starEach [b,c] X.env:=by rfl)(hs2:(backTo pos (starEach [b,c] X.env)).any (·.1)=false:=by rfl) :
  PI X tg (.Call (.Name "range" p) [a,b,c] [] pos) (iRng8 ta):=by
 intro pins s σ H R I h;refine Call_ (QE I hg hm boot_range (PyProof.Rows.callWith_type1 (thn (ha pos pins s σ H _ I h) fun us s1 ⟨vs,H1,I1,r1,q1⟩=>?_) hs hs2));obtain⟨n,e,hn,q⟩:=q1;subst e;cases r1 with
 | cons r rr=>
  cases rr with
  | cons r' rr=>
   cases rr with
   | cons r'' rr=>
    cases rr;obtain⟨t,rfl⟩:=r;obtain⟨t',rfl⟩:=r';obtain⟨t'',rfl⟩:=r'';refine call_range_3 (by decide) ?_ (.inl (PyProof.noPylong_small (by omega)));refine wpAny_pyIter_range (IsRange.new ..) (small8 hn) ?_;generalize hp:s1.heap.push _=h2;have k2:∀b o,s1.heap.get? b=some o->h2.get? b=some o:=fun b o e=>hp▸Heap.get?_push_of_some _ e
    clear hp;have I2:=I1.kept (t':=s1.toks) k2;refine⟨h2.objs.size,[h2.objs.size],_,_,H1,rfl,I2.kept (t':=s1.toks) fun b o e=>Heap.get?_push_of_some _ e,YT _ ((n+7)/8),?_,fun b hb=>?_,q⟩
    ·show IsRangeIter _ _ (0+((0:Nat):Int)*8) ((((n+7)/8:Nat):Int)-((0:Nat):Int)) 8;rw[<-size8,show(0:Int)+((0:Nat):Int)*8=0 by simp,Int.natCast_zero,Int.sub_zero];exact Heap.get?_push_size _ rfl
    ·have e:b=h2.objs.size:=by simpa using hb
     subst e;exact I2.fpOk (Nat.le_refl _) (I2.hok.fresh (Nat.le_refl _))
end
theorem WE{ta:TA}{σ:St}{H:Hp}{R:It->Hp->Prop}(h:ta σ H fun vs H1=>∃n:Nat,vs=[.int 0,.int (n:Nat),.int 8]/\n<2^60/\R (It8 ((n+7)/8)) H1):iRng8 ta σ H R:=h
theorem xa{n:Nat}{g:TG}{tb:TS}{D:Ends}{σ:St}{H:Hp}(Pv:Nat->St->Hp->Prop)(h0:Pv 0 σ H)(hs:∀i σ H,i<n->Pv i σ H->g (.int ((8*i:Nat):Int)) σ H fun σ2 H2=>tb {D with nx:=Pv (i+1),ct:=Pv (i+1),bk:=D.nx} σ2 H2)(hd:∀σ H,Pv n σ H->D.nx σ H) :
  ∃W:Nat->Nat->St->Hp->Prop,(∃m,W 0 m σ H)/\∀i m σ H,W i m σ H->
   ((It8 n).stop i H/\D.nx σ H)\/((It8 n).go i H/\∃N:St->Hp->Prop,(∀σ' H',N σ' H'->∃m',m'<m/\W (i+1) m' σ' H')/\∀x H',(It8 n).yld i H x H'->g x σ H' fun σ2 H2=>tb {D with nx:=N,ct:=N,bk:=D.nx} σ2 H2):=by
 refine⟨fun i m σ H=>m=n-i/\i<=n/\Pv i σ H,⟨n,by simp,Nat.zero_le _,h0⟩,?_⟩;rintro i m σ H ⟨rfl,hi,p⟩;by_cases hlt:i<n
 ·refine .inr ⟨hlt,Pv (i+1),fun σ' H' p'=>⟨n-(i+1),by omega,rfl,hlt,p'⟩,fun x H' y=>?_⟩;obtain⟨rfl,rfl⟩:=y;exact hs i σ _ hlt p
 ·have e:i=n:=by omega
  subst e;exact .inl ⟨Nat.le_refl _,hd σ H p⟩
end L2
namespace Rm
open PySem PySem.Spec PyProof.Rows L2
inductive Gv where
 | smp (r:Bool) (vs:List V) | rise (x h n:V) | again (k x:V) | many (s:Bool) (xs:List V)
noncomputable def GAt(H:Hp)(a:Addr):Gv->Prop
 | .smp r vs=>H a=some (.tup (.str (if r then "ring" else "hold")::vs))
 | .rise x h n=>H a=some (.tup [.str "raise",x,h,n])
 | .again k x=>H a=some (.tup [.str "again",k,x])
 | .many s xs=>∃b,H a=some (.tup [.str (if s then "side" else "row"),.ref b])/\H b=some (.tup xs)
theorem GAt.same{H H':Hp}{a:Addr}{g:Gv}(s:Same H H')(h:GAt H a g):GAt H' a g:=by
 cases g with
 | smp r vs=>exact s _ _ h
 | rise x g n=>exact s _ _ h
 | again k x=>exact s _ _ h
 | many t xs=>obtain⟨b,h1,h2⟩:=h;exact⟨b,s _ _ h1,s _ _ h2⟩
theorem GAt.tups{H H':Hp}{a:Addr}{g:Gv}(s:∀b xs,H b=some (.tup xs)->H' b=some (.tup xs))(h:GAt H a g):GAt H' a g:=by
 cases g with
 | smp r vs=>exact s _ _ h
 | rise x g n=>exact s _ _ h
 | again k x=>exact s _ _ h
 | many t xs=>obtain⟨b,h1,h2⟩:=h;exact⟨b,s _ _ h1,s _ _ h2⟩
def Itm(H:Hp)(l:Addr)(x y:V):Prop:=(∃xs i,H l=some (.lst xs)/\x = .int i/\atI xs i=some y)\/DGet H l x (some y)
theorem yN{K:Frg}{H:Hp}{l:Addr}{x y:V}{Q:VK}(h:Itm H l x y)(q:Q y H):rIxL K (.ref l) x H Q\/∃a v,V.ref l = .ref a/\DGet H a x (some v)/\Q v H:=by
 rcases h with⟨xs,i,e,rfl,h⟩ | h
 ·exact .inl ⟨l,xs,i,y,rfl,rfl,SqL.of e,h,q⟩
 ·exact .inr ⟨l,y,rfl,h,q⟩
theorem Itm.same{H H':Hp}{l:Addr}{x y:V}(s:Same H H')(h:Itm H l x y):Itm H' l x y:=by
 rcases h with⟨xs,i,e,rfl,h⟩ | h
 ·exact .inl ⟨xs,i,s _ _ e,rfl,h⟩
 ·refine .inr ?_;rcases h with⟨kvs,k,e,r1,r2⟩ | ⟨kvs,k,b,e,r1,r2,r3⟩
  ·exact .inl ⟨kvs,k,e.imp (fun e=>s _ _ e) fun⟨o,e⟩=>⟨o,s _ _ e⟩,r1,r2⟩
  ·exact .inr ⟨kvs,k,b,e.imp (fun e=>s _ _ e) fun⟨o,e⟩=>⟨o,s _ _ e⟩,r1,s _ _ r2,r3⟩
noncomputable def GMap(H:Hp)(l p:Addr):Gv->Gv->Prop
 | .smp r vs,g=>g = .smp r vs
 | .rise x h n,g=>∃y,Itm H l x y/\g = .rise y h n
 | .again k x,g=>∃y,Itm H p x y/\g = .again k y
 | .many s xs,g=>∃ys,ys.length=xs.length/\(∀(i:Nat) (x y:V),xs[i]?=some x->ys[i]?=some y->Itm H p x y)/\xs.length<=8/\g = .many s ys
inductive sp_formW(vs:List V)(H:Hp)(Q:VK)(xk:XK):Prop
 | mk (a l p:Addr) (g g':Gv) (_:vs=[.ref a,.ref l,.ref p]) (_:GAt H a g) (_:GMap H l p g g') (_:∀(b:Addr) (H':Hp),Same H H'->GAt H' b g'->Q (.ref b) H'):sp_formW vs H Q xk
noncomputable def Gv.ns:Gv->List V
 | .again _ x=>[x]
 | .many _ xs=>xs
 | _=>[]
inductive sp_namesG(vs:List V)(H:Hp)(Q:VK)(xk:XK):Prop
 | mk (a:Addr) (g:Gv) (_:vs=[.ref a]) (_:GAt H a g) (_:∀(b:Addr) (H':Hp),Same H H'->H' b=some (.tup g.ns)->Q (.ref b) H'):sp_namesG vs H Q xk
noncomputable def gF:Fm->Gv
 | .hold n=>.smp false [.int n]
 | .ring x n=>.smp true [.str x,.int n]
 | .rise x h n=>.rise (.str x) (.int h) (.int n)
 | .row ps=>.many false (ps.map V.str)
 | .side ps=>.many true (ps.map V.str)
 | .again k x=>.again (.int k) (.str x)
theorem Yl{H:Hp}{a:Addr}{f:Fm}:FormAt H a f↔GAt H a (gF f):=by
 cases f<;>exact Iff.rfl
inductive Dm where
 | hold (n:Int) | ring (x:Str) (n:Int) | rise (l:Nat) (h n:Int) | row (ps:List Nat) | side (ps:List Nat) | again (k:Int) (p:Nat)
 deriving DecidableEq
noncomputable def gD:Dm->Gv
 | .hold n=>.smp false [.int n]
 | .ring x n=>.smp true [.str x,.int n]
 | .rise l h n=>.rise (.int l) (.int h) (.int n)
 | .row ps=>.many false (ps.map vN)
 | .side ps=>.many true (ps.map vN)
 | .again k p=>.again (.int k) (.int p)
noncomputable def Dm.ns:Dm->List Nat
 | .row ps=>ps
 | .side ps=>ps
 | .again _ p=>[p]
 | _=>[]
theorem xM(d:Dm):(gD d).ns=d.ns.map vN:=by cases d<;>rfl
noncomputable def iK(n:Nat):Key:=Sum.inl (n:Int)
noncomputable def kD:Dm->NK
 | .hold n=>[Sum.inl (Sum.inr "hold"),Sum.inl (Sum.inl n)]
 | .ring x n=>[Sum.inl (Sum.inr "ring"),Sum.inl (Sum.inr x),Sum.inl (Sum.inl n)]
 | .rise l h n=>[Sum.inl (Sum.inr "raise"),Sum.inl (iK l),Sum.inl (Sum.inl h),Sum.inl (Sum.inl n)]
 | .row ps=>[Sum.inl (Sum.inr "row"),Sum.inr (ps.map iK)]
 | .side ps=>[Sum.inl (Sum.inr "side"),Sum.inr (ps.map iK)]
 | .again k p=>[Sum.inl (Sum.inr "again"),Sum.inl (Sum.inl k),Sum.inl (iK p)]
theorem yL:∀{a b:List Nat},a.map iK=b.map iK->a=b
 | [],[],_=>rfl
 | [],_::_,h=>by simp at h
 | _::_,[],h=>by simp at h
 | x::a,y::b,h=>by
  rw[map_cons,map_cons]at h;injection h with h1 h2;have:(x:Int)=y:=Sum.inl.inj h1;rw[yL h2,show x=y by omega]
theorem qN{x y:Str}{r s:NK}(h:(Sum.inl (Sum.inr x):NI)::r=Sum.inl (Sum.inr y)::s):x=y/\r=s:=by
 injection h with h1 h2;exact⟨Sum.inr.inj (Sum.inl.inj h1),h2⟩
theorem xg{d e:Dm}(h:kD d=kD e):d=e:=by
 cases d with
 | hold n=>
  cases e with
  | hold m=>
   have:=(qN h).2;injection this with h1;rw[Sum.inl.inj (Sum.inl.inj h1)]
  | _=>exact absurd (qN h).1 (by decide +kernel)
 | ring x n=>
  cases e with
  | ring y m=>
   have:=(qN h).2;injection this with h1 h2;injection h2 with h2;rw[Sum.inl.inj (Sum.inl.inj h2),Sum.inr.inj (Sum.inl.inj h1)]
  | _=>exact absurd (qN h).1 (by decide +kernel)
 | rise l v n=>
  cases e with
  | rise l' v' m=>
   have:=(qN h).2;injection this with h1 h2;injection h2 with h2 h3;injection h3 with h3;have e:(l:Int)=l':=Sum.inl.inj (Sum.inl.inj h1);rw[Sum.inl.inj (Sum.inl.inj h2),Sum.inl.inj (Sum.inl.inj h3),show l=l' by omega]
  | _=>exact absurd (qN h).1 (by decide +kernel)
 | row ps=>
  cases e with
  | row qs=>
   have:=(qN h).2;injection this with h1;rw[yL (Sum.inr.inj h1)]
  | _=>exact absurd (qN h).1 (by decide +kernel)
 | side ps=>
  cases e with
  | side qs=>
   have:=(qN h).2;injection this with h1;rw[yL (Sum.inr.inj h1)]
  | _=>exact absurd (qN h).1 (by decide +kernel)
 | again k p=>
  cases e with
  | again k' p'=>
   have:=(qN h).2;injection this with h1 h2;injection h2 with h2;have e:(p:Int)=p':=Sum.inl.inj (Sum.inl.inj h2);rw[Sum.inl.inj (Sum.inl.inj h1),show p=p' by omega]
  | _=>exact absurd (qN h).1 (by decide +kernel)
theorem kZ(ps:List Nat):(ps.map iK).map kV=ps.map vN:=by rw[map_map];rfl
theorem wq{H:Hp}{a:Addr}{d:Dm}(h:GAt H a (gD d)):NAt H a (kD d):=by
 cases d with
 | hold n=>exact⟨_,h,.key (k:=Sum.inr "hold") (.key (k:=Sum.inl n) .nil)⟩
 | ring x n=>exact⟨_,h,.key (k:=Sum.inr "ring") (.key (k:=Sum.inr x) (.key (k:=Sum.inl n) .nil))⟩
 | rise l v n=>exact⟨_,h,.key (k:=Sum.inr "raise") (.key (k:=Sum.inl (l:Int)) (.key (k:=Sum.inl v) (.key (k:=Sum.inl n) .nil)))⟩
 | row ps=>obtain⟨b,h1,h2⟩:=h;exact⟨_,h1,.key (k:=Sum.inr "row") (.tup (by rw[kZ];exact h2) .nil)⟩
 | side ps=>obtain⟨b,h1,h2⟩:=h;exact⟨_,h1,.key (k:=Sum.inr "side") (.tup (by rw[kZ];exact h2) .nil)⟩
 | again k p=>exact⟨_,h,.key (k:=Sum.inr "again") (.key (k:=Sum.inl k) (.key (k:=Sum.inl (p:Int)) .nil))⟩
noncomputable def wiF(lx px:List Str)(ns:List Nat):Fm->Dm
 | .hold n=>.hold n
 | .ring x n=>.ring x n
 | .rise x h n=>.rise (ixOf lx x) h n
 | .row qs=>.row (qs.map fun x=>ns.getD (ixOf px x) 0)
 | .side qs=>.side (qs.map fun x=>ns.getD (ixOf px x) 0)
 | .again k x=>.again k (ns.getD (ixOf px x) 0)
noncomputable def stepM(lx px:List Str)(st:List Dm×List Nat)(p:Str×Fm):List Dm×List Nat:=
 let d:=wiF lx px st.2 p.2
 if d∈st.1 then(st.1,st.2++[st.1.idxOf d])else(st.1++[d],st.2++[st.1.length])
noncomputable def madeM(lx px:List Str)(ps:List (Str×Fm)):List Dm×List Nat:=ps.foldl (stepM lx px) ([],[])
theorem jL(lx px:List Str)(ps:List (Str×Fm))(p:Str×Fm):madeM lx px (ps++[p])=stepM lx px (madeM lx px ps) p:=by
 unfold madeM;rw[List.foldl_append];rfl
structure MkOk(ks:List Dm)(ns:List Nat)(n:Nat):Prop where
 nd:ks.Nodup
 ln:ns.length=n
 lk:ks.length<=n
 lt:∀k∈ns,k<ks.length
theorem QU(lx px:List Str):∀(n:Nat) (ps:List (Str×Fm)),ps.length=n->MkOk (madeM lx px ps).1 (madeM lx px ps).2 n
 | 0,ps,h=>by
  rw[List.length_eq_zero_iff.mp h];exact⟨List.nodup_nil,rfl,Nat.le_refl _,fun k h=>nomatch h⟩
 | n+1,ps,h=>by
  obtain⟨qs,p,rfl⟩:∃qs p,ps=qs++[p]:=⟨ps.dropLast,ps.getLast (fun z=>by rw[z]at h;cases h),(List.dropLast_concat_getLast _).symm⟩
  rw[List.length_append,length_singleton]at h;obtain⟨nd,ln,lk,lt⟩:=QU lx px n qs (by omega);rw[jL];generalize madeM lx px qs=st at nd ln lk lt;unfold stepM;dsimp only;split
  ·rename_i hd;refine⟨nd,by rw[List.length_append,ln];rfl,by show st.1.length<=n+1;omega,fun k hk=>?_⟩;rcases mem_append.mp hk with hk | hk
   ·exact lt k hk
   ·rw[mem_singleton.mp hk];exact idxOf_lt_length_of_mem hd
  ·rename_i hd;refine⟨nodup_append.mpr ⟨nd,by simp,fun x hx y hy z=>hd (by rw[<-mem_singleton.mp hy,<-z];exact hx)⟩,by rw[List.length_append,ln];rfl,by show(st.1++[_]).length<=n+1;rw[List.length_append,length_singleton];omega,fun k hk=>?_⟩;show k<(st.1++[_]).length;rw[List.length_append,length_singleton];rcases mem_append.mp hk with hk | hk
   ·have:=lt k hk;omega
   ·rw[mem_singleton.mp hk];omega
def EnAt(H:Hp)(xs:List NE)(ks:List Dm):Prop:=xs.length=ks.length/\∀(i:Nat) (d:Dm),ks[i]?=some d->∃a,xs[i]?=some (kD d,a,.int i)/\GAt H a (gD d)
theorem EnAt.tups{H H':Hp}{xs:List NE}{ks:List Dm}(e:EnAt H xs ks)(s:∀b xs,H b=some (.tup xs)->H' b=some (.tup xs)):EnAt H' xs ks:=⟨e.1,fun i d h=>let ⟨a,h1,h2⟩:=e.2 i d h;⟨a,h1,h2.tups s⟩⟩
theorem EnAt.nat{H:Hp}{xs:List NE}{ks:List Dm}(e:EnAt H xs ks):∀p∈xs,NAt H p.2.1 p.1:=fun p hp=>by
 obtain⟨i,hi,ei⟩:=mem_iff_getElem.mp hp;have l:=e.1;obtain⟨a,h1,h2⟩:=e.2 i _ (List.getElem?_eq_getElem (by omega));rw[List.getElem?_eq_getElem hi,ei]at h1;cases h1;exact wq h2
theorem EnAt.snoc{H:Hp}{xs:List NE}{ks:List Dm}(e:EnAt H xs ks){a:Addr}{d:Dm}(h:GAt H a (gD d)):EnAt H (xs++[(kD d,a,.int (ks.length:Nat))]) (ks++[d]):=by
 have l:=e.1;refine⟨by rw[List.length_append,List.length_append,l];rfl,fun i d' h'=>?_⟩;rcases Nat.lt_or_ge i ks.length with z | z
 ·rw[List.getElem?_append_left z]at h';obtain⟨a',h1,h2⟩:=e.2 i d' h';exact⟨a',by rw[List.getElem?_append_left (by omega)];exact h1,h2⟩
 ·rw[List.getElem?_append_right z]at h';have ei:i=ks.length:=by
   have:=(List.getElem?_eq_some_iff.mp h').1;rw[length_singleton]at this;omega
  subst ei;rw[Nat.sub_self]at h';cases h';exact⟨a,by rw[<-l,List.getElem?_append_right (Nat.le_refl _),Nat.sub_self];rfl,h⟩
theorem EnAt.found{H:Hp}{xs:List NE}{ks:List Dm}{d:Dm}(e:EnAt H xs ks)(nd:ks.Nodup) :
  (∀p,xs.find? (fun p=>decide (p.1=kD d))=some p->d∈ks/\p.2.2 = .int (ks.idxOf d:Nat))/\(xs.find? (fun p=>decide (p.1=kD d))=none->d∉ks):=by
 have l:=e.1;refine⟨fun p hp=>?_,fun hn hd=>?_⟩
 ·have h1:=List.find?_some hp;have h2:=List.mem_of_find?_eq_some hp;obtain⟨i,hi,ei⟩:=mem_iff_getElem.mp h2;have ik:i<ks.length:=by omega
  obtain⟨a,h3,h4⟩:=e.2 i _ (List.getElem?_eq_getElem ik);rw[List.getElem?_eq_getElem hi,ei]at h3;cases h3;have ed:ks[i]=d:=xg (of_decide_eq_true h1);refine⟨ed▸getElem_mem ik,?_⟩;show V.int _=V.int _;rw[<-ed,nd.idxOf_getElem i ik]
 ·obtain⟨i,hi,ei⟩:=mem_iff_getElem.mp hd;obtain⟨a,h3,h4⟩:=e.2 i _ (List.getElem?_eq_getElem hi);have:=List.find?_eq_none.mp hn _ (mem_of_getElem? h3);rw[ei]at this;exact this (decide_eq_true rfl)
noncomputable def numV(xs:List Str)(ns:List Nat):List (Key×V):=(xs.zip ns).map fun q=>(Sum.inr q.1,vN q.2)
theorem yw{xs:List Str}{ns:List Nat}{x:Str}{n:Nat}(h:xs.length=ns.length):numV (xs++[x]) (ns++[n])=numV xs ns++[(Sum.inr x,vN n)]:=by
 unfold numV;rw[List.zip_append h,map_append];rfl
theorem wx{xs:List Str}{ns:List Nat}(h:xs.length=ns.length):(numV xs ns).length=xs.length:=by
 unfold numV;rw[length_map,length_zip];omega
theorem yv{xs:List Str}{ns:List Nat}(h:xs.length=ns.length):(numV xs ns).map (·.1)=xs.map Sum.inr:=by
 unfold numV;rw[map_map];show(xs.zip ns).map (fun q=>Sum.inr q.1)=_;rw[show(fun q:Str×Nat=>(Sum.inr q.1:Key))=Sum.inr∘Prod.fst from rfl,<-map_map,List.map_fst_zip (by omega)]
def DrAt(H:Hp)(as:List Addr)(ks:List Dm):Prop:=All2 (fun a d=>GAt H a (gD d)) as ks
inductive sp_made(vs:List V)(H:Hp)(Q:VK)(xk:XK):Prop
 | mk (b pl pp:Addr) (las pas:List Addr) (ls:List (Str×Int)) (ps:List (Str×Fm)) (_:vs=[.ref b]) (_:BookAt H b pl pp las pas ls ps) (_:WfB ls ps) (_:1<=ps.length) (_:∀(t f:Addr) (fas:List Addr) (H':Hp),Same H H'->H' t=some (.tup [.ref f,vN ((madeM (nmsOf ls) (nmsOf ps) ps).2.getD (ps.length-1) 0)])->H' f=some (.lst (fas.map V.ref))->DrAt H' fas (madeM (nmsOf ls) (nmsOf ps) ps).1->Q (.ref t) H'):sp_made vs H Q xk
theorem YB{xs:List Str}{ns:List Nat}(h:xs.length=ns.length)(nd:xs.Nodup){j:Nat}{x:Str}(e:xs[j]?=some x):valV (numV xs ns) (Sum.inr x)=some (vN (ns.getD j 0)):=by
 have hj:=(List.getElem?_eq_some_iff.mp e).1;refine ZW (j:=j) (by rw[yv h];exact pairwise_map.mpr (nd.imp fun h e=>h (Sum.inr.inj e))) ?_;unfold numV;rw[List.getElem?_map,List.getElem?_zip_eq_some.mpr (show xs[j]?=some (x,ns[j]).1/\ns[j]?=some (x,ns[j]).2 from⟨e,List.getElem?_eq_getElem (by omega)⟩),getD_eq_getElem?_getD,List.getElem?_eq_getElem (by omega)];rfl
theorem wr{H:Hp}{d:Addr}{px:List Str}{ns:List Nat}{i:Nat}(hi:i<=px.length)(hl:ns.length=i)(nd:px.Nodup)(ed:H d=some (.dK (numV (px.take i) ns))){x:Str}{j:Nat}(hj:j<i)(ex:px[j]?=some x):Itm H d (.str x) (vN (ns.getD (ixOf px x) 0)):=by
 rw[qQ nd ex];refine .inr ?_;have g:=DGet.k (k:=Sum.inr x) ed;rw[YB (j:=j) (by rw[length_take];omega) (List.Nodup.sublist (take_sublist _ _) nd) (by rw[List.getElem?_take,if_pos hj];exact ex)]at g;exact g
theorem wo{H:Hp}{d d2:Addr}{ls:List (Str×Int)}{ps:List (Str×Fm)}{ns:List Nat}{i:Nat}{p:Str×Fm}(W:WfB ls ps)(hp:ps[i]?=some p)(hl:ns.length=i)(e1:H d=some (.dK (numK (nmsOf ls))))(e2:H d2=some (.dK (numV ((nmsOf ps).take i) ns))) :
  GMap H d d2 (gF p.2) (gD (wiF (nmsOf ls) (nmsOf ps) ns p.2)):=by
 have hi:=(List.getElem?_eq_some_iff.mp hp).1;have li:i<=(nmsOf ps).length:=by rw[nmsOf,length_map];omega
 obtain⟨wf,w8⟩:=W.f i p hp;have many:∀(s:Bool) (qs:List Str),(∀x∈qs,∃j,j<i/\(nmsOf ps)[j]?=some x)->qs.length<=8->GMap H d d2 (.many s (qs.map V.str)) (.many s ((qs.map fun x=>ns.getD (ixOf (nmsOf ps) x) 0).map vN)):=fun s qs hq h8=>by
  refine⟨_,by rw[length_map,length_map,length_map],fun k x y hx hy=>?_,by rw[length_map];exact h8,rfl⟩;rw[List.getElem?_map]at hx;obtain⟨z,hz,rfl⟩:=Option.map_eq_some_iff.mp hx;rw[List.getElem?_map,List.getElem?_map,hz]at hy;cases hy;obtain⟨j,hj,ej⟩:=hq z (mem_of_getElem? hz);exact wr li hl W.pn e2 hj ej
 obtain⟨nm,f⟩:=p;cases f with
 | hold n=>rfl
 | ring x n=>rfl
 | rise x h n=>
  obtain⟨j,hj⟩:=W.r i nm x h n hp;refine⟨vN j,.inr ?_,?_⟩
  ·have g:=DGet.k (k:=Sum.inr x) e1;rw[ww W.ln hj]at g;exact g
  ·show Gv.rise (.int (ixOf (nmsOf ls) x:Nat)) _ _=_;rw[qQ W.ln hj];rfl
 | row qs=>exact many false qs wf w8
 | side qs=>exact many true qs wf w8
 | again k x=>
  obtain⟨j,hj,ej⟩:=wf x mem_cons_self;exact⟨_,wr li hl W.pn e2 hj ej,rfl⟩
theorem KR{xs:List V}{n:Nat}{v:V}(h:1<=n)(e:xs.length=n)(hx:xs[n-1]?=some v):atI xs (-1)=some v:=by
 have:xs=xs.take (n-1)++[v]:=by
  rw[<-take_snoc hx,show n-1+1=xs.length by omega,take_length]
 rw[this];exact KQ _ _
theorem DrAt.of{H:Hp}{xs:List NE}{ks:List Dm}(e:EnAt H xs ks):DrAt H (xs.map fun q=>q.2.1) ks:=by
 refine⟨by rw[length_map];exact e.1,fun i a d ha hd=>?_⟩;obtain⟨a',h1,h2⟩:=e.2 i d hd;rw[List.getElem?_map,h1]at ha;cases ha;exact h2
inductive Rc(ks:List Dm)(t:Nat):Nat->Prop
 | top:Rc ks t t
 | sub {y x:Nat}:Rc ks t y->x∈(ks.getD y (.hold 0)).ns->Rc ks t x
structure Dwn(ks:List Dm):Prop where
 lt:∀(i:Nat) (d:Dm),ks[i]?=some d->∀j∈d.ns,j<i
 l8:∀d∈ks,d.ns.length<=8
theorem Dwn.get{ks:List Dm}(D:Dwn ks){i j:Nat}(h:j∈(ks.getD i (.hold 0)).ns):j<i/\i<ks.length:=by
 rw[getD_eq_getElem?_getD]at h;cases e:ks[i]? with
 | none=>rw[e]at h;exact nomatch h
 | some d=>rw[e]at h;exact⟨D.lt i d e j h,(List.getElem?_eq_some_iff.mp e).1⟩
theorem Rc.le{ks:List Dm}{t x:Nat}(D:Dwn ks)(h:Rc ks t x):x<=t:=by
 induction h with
 | top=>exact Nat.le_refl _
 | sub _ hm ih=>have:=(D.get hm).1;omega
theorem WZ(lx px:List Str)(ns:List Nat)(f:Fm):(wiF lx px ns f).ns=f.ns.map fun x=>ns.getD (ixOf px x) 0:=by cases f<;>rfl
theorem yS{ls:List (Str×Int)}{ps:List (Str×Fm)}(W:WfB ls ps):∀n,n<=ps.length->Dwn (madeM (nmsOf ls) (nmsOf ps) (ps.take n)).1
 | 0,_=>⟨fun i d h=>by simp[madeM]at h,fun d h=>by simp[madeM]at h⟩
 | n+1,hn=>by
  have hp:ps[n]?=some ps[n]:=List.getElem?_eq_getElem hn;obtain⟨lt,l8⟩:=yS W n (by omega);have M:=QU (nmsOf ls) (nmsOf ps) n (ps.take n) (by rw[length_take];omega);rw[take_snoc hp,jL];generalize madeM (nmsOf ls) (nmsOf ps) (ps.take n)=st at lt l8 M;obtain⟨wf,w8⟩:=W.f n _ hp;unfold stepM;dsimp only;split
  ·exact⟨lt,l8⟩
  ·refine⟨fun i d h j hj=>?_,fun d hd=>?_⟩
   ·rcases Nat.lt_or_ge i st.1.length with z | z
    ·rw[List.getElem?_append_left z]at h;exact lt i d h j hj
    ·rw[List.getElem?_append_right z]at h;have ei:i-st.1.length=0:=by
      have:=(List.getElem?_eq_some_iff.mp h).1;rw[length_singleton]at this;omega
     rw[ei]at h;cases h;rw[WZ]at hj;obtain⟨x,hx,rfl⟩:=mem_map.mp hj;obtain⟨k,hk,ek⟩:=wf x hx;rw[qQ W.pn ek,getD_eq_getElem?_getD,List.getElem?_eq_getElem (by rw[M.ln];exact hk)];have:=M.lt _ (getElem_mem (by rw[M.ln];exact hk):st.2[k]'(by rw[M.ln];exact hk)∈st.2);show st.2[k]'_<i;omega
   ·rcases mem_append.mp hd with hd | hd
    ·exact l8 d hd
    ·rw[mem_singleton.mp hd,WZ,length_map];exact w8
noncomputable def putS(S:List Nat)(x:Nat):List Nat:=if x∈S then S else S++[x]
noncomputable def addS(S xs:List Nat):List Nat:=xs.foldl putS S
theorem wp{S:List Nat}{x y:Nat}:y∈putS S x↔y∈S\/y=x:=by
 unfold putS;split
 ·rename_i h;exact⟨.inl,fun z=>z.elim id fun e=>e▸h⟩
 ·simp
theorem q0:∀{xs S:List Nat} {y:Nat},y∈addS S xs↔y∈S\/y∈xs
 | [],S,y=>by simp[addS]
 | x::xs,S,y=>by
  show y∈addS (putS S x) xs↔_;rw[q0,wp,mem_cons,or_assoc]
theorem Wm{S:List Nat}(nd:S.Nodup)(x:Nat):(putS S x).Nodup:=by
 unfold putS;split
 ·exact nd
 ·rename_i h;exact nodup_append.mpr ⟨nd,by simp,fun a ha b hb z=>h (by rw[<-mem_singleton.mp hb,<-z];exact ha)⟩
theorem Kc(S xs:List Nat)(x:Nat):addS S (xs++[x])=putS (addS S xs) x:=by
 unfold addS;rw[List.foldl_append];rfl
def KySet(kvs:List (Key×V))(S:List Nat):Prop:=kvs.map (·.1)=S.map iK/\S.Nodup
theorem Y8{a b:Nat}(h:iK a=iK b):a=b:=by
 have:(a:Int)=b:=Sum.inl.inj h;omega
theorem KySet.mem{kvs:List (Key×V)}{S:List Nat}(h:KySet kvs S){x:Nat}:(valV kvs (iK x)).isSome=decide (x∈S):=by
 have e:iK x∈kvs.map (·.1)↔x∈S:=by
  rw[h.1];exact⟨fun z=>let ⟨y,hy,e⟩:=mem_map.mp z;(Y8 e)▸hy,fun z=>mem_map.mpr ⟨x,z,rfl⟩⟩
 cases v:valV kvs (iK x)with
 | none=>exact(decide_eq_false fun z=>wQ v (e.mpr z)).symm
 | some y=>exact(decide_eq_true (e.mp (WL v))).symm
theorem KySet.put{kvs:List (Key×V)}{S:List Nat}(h:KySet kvs S)(x:Nat)(v:V):KySet (putK kvs (iK x) v) (putS S x):=by
 refine⟨?_,Wm h.2 x⟩;have m:=h.mem (x:=x);unfold putK putS;rw[QY,m];by_cases z:x∈S
 ·rw[decide_eq_true z,if_pos rfl,if_pos z,map_map,<-h.1];refine map_congr_left fun q _=>?_
  show(if q.1=iK x then(q.1,v)else q).1=q.1;split<;>rfl
 ·rw[decide_eq_false z,if_neg Bool.false_ne_true,if_neg z,map_append,map_append,h.1];rfl
theorem KySet.len{kvs:List (Key×V)}{S:List Nat}(h:KySet kvs S):kvs.length=S.length:=by
 have:=congrArg List.length h.1;rw[length_map,length_map]at this;exact this
theorem kY{α:Type}[DecidableEq α]:∀{l m:List α},l.Nodup->(∀x∈l,x∈m)->l.length<=m.length
 | [],m,_,_=>Nat.zero_le _
 | a::l,m,nd,h=>by
  rw[nodup_cons]at nd;have ha:=h a mem_cons_self;have:=kY (l:=l) (m:=m.erase a) nd.2 fun x hx=>(List.mem_erase_of_ne (fun z:x=a=>nd.1 (by rw[<-z];exact hx))).mpr (h x (mem_cons_of_mem _ hx))
  rw[List.length_erase_of_mem ha]at this;have:=List.length_pos_of_mem ha;rw[length_cons];omega
theorem yT{S:List Nat}{n:Nat}(nd:S.Nodup)(h:∀x∈S,x<n):S.length<=n:=by
 have:=kY (m:=List.range n) nd fun x hx=>mem_range.mpr (h x hx)
 rw[length_range]at this;exact this
structure CmOk(ks:List Dm)(t i:Nat)(S:List Nat):Prop where
 rc:∀x∈S,Rc ks t x
 tp:t∈S
 cl:∀y∈S,t<y+i->∀j∈(ks.getD y (.hold 0)).ns,j∈S
theorem CmOk.all{ks:List Dm}{t:Nat}{S:List Nat}(c:CmOk ks t (t+1) S){x:Nat}:x∈S↔Rc ks t x:=by
 refine⟨c.rc x,fun h=>?_⟩
 induction h with
 | top=>exact c.tp
 | sub _ hm ih=>exact c.cl _ ih (by omega) _ hm
theorem CmOk.yes{ks:List Dm}{t i y:Nat}{S:List Nat}(D:Dwn ks)(c:CmOk ks t i S)(hy:y∈S)(e:y+i=t):CmOk ks t (i+1) (addS S (ks.getD y (.hold 0)).ns):=by
 refine⟨fun x hx=>?_,q0.mpr (.inl c.tp),fun z hz hi j hj=>?_⟩
 ·rcases q0.mp hx with h | h
  ·exact c.rc x h
  ·exact .sub (c.rc y hy) h
 ·rcases q0.mp hz with h | h
  ·by_cases zy:z=y
   ·subst zy;exact q0.mpr (.inr hj)
   ·exact q0.mpr (.inl (c.cl z h (by omega) j hj))
  ·have:=(D.get h).1;omega
theorem CmOk.no{ks:List Dm}{t i y:Nat}{S:List Nat}(c:CmOk ks t i S)(hy:y∉S)(e:y+i=t):CmOk ks t (i+1) S:=
 ⟨c.rc,c.tp,fun z hz hi j hj=>c.cl z hz (by have:z≠y:=fun e=>hy (e▸hz);omega) j hj⟩
theorem kO:∀{ms:List Int},(∀m∈ms,0<=m)->∃ns:List Nat,ms=ns.map (fun n:Nat=>(n:Int))
 | [],_=>⟨[],rfl⟩
 | m::ms,h=>by
  obtain⟨ns,e⟩:=kO (ms:=ms) fun x hx=>h x (mem_cons_of_mem _ hx)
  have:=h m mem_cons_self;exact⟨m.toNat::ns,by rw[map_cons,<-e,show((m.toNat:Nat):Int)=m by omega]⟩
theorem YQ{ms:List Int}{S:List Nat}(p:ms.Perm (S.map fun n:Nat=>(n:Int)))(o:ms.Pairwise (·<=·))(nd:S.Nodup):∃ns:List Nat,ms.map V.int=ns.map vN/\ns.Pairwise (· < ·)/\∀x,x∈ns↔x∈S:=by
 obtain⟨ns,rfl⟩:=kO (ms:=ms) fun m hm=>by
  obtain⟨n,_,rfl⟩:=mem_map.mp (p.mem_iff.mp hm);exact Int.natCast_nonneg n
 have mem:∀x,x∈ns↔x∈S:=fun x=>by
  constructor
  ·intro h;obtain⟨y,hy,e⟩:=mem_map.mp (p.mem_iff.mp (mem_map.mpr ⟨x,h,rfl⟩));have:y=x:=by omega
   exact this▸hy
  ·intro h;obtain⟨y,hy,e⟩:=mem_map.mp (p.mem_iff.mpr (mem_map.mpr ⟨x,h,rfl⟩));have:y=x:=by omega
   exact this▸hy
 have nd2:(S.map fun n:Nat=>(n:Int)).Nodup:=pairwise_map.mpr (nd.imp fun h e=>h (by omega));have nd3:=pairwise_map.mp (p.nodup_iff.mpr nd2);refine⟨ns,by rw[map_map];rfl,?_,mem⟩;exact((pairwise_map.mp o).and nd3).imp fun⟨h1,h2⟩=>by omega
inductive sp_come(vs:List V)(H:Hp)(Q:VK)(xk:XK):Prop
 | mk (f:Addr) (fas:List Addr) (ks:List Dm) (t:Nat) (_:vs=[.ref f,vN t]) (_:H f=some (.lst (fas.map V.ref))) (_:DrAt H fas ks) (_:Dwn ks) (_:t<ks.length) (_:ks.length<=61) (_:∀(l:Addr) (ms:List Nat) (H':Hp),Same H H'->H l=none->H' l=some (.lst (ms.map vN))->ms.Pairwise (· < ·)->(∀x,x∈ms↔Rc ks t x)->Q (.ref l) H'):sp_come vs H Q xk
noncomputable def reD(P:Nat->Nat):Dm->Dm
 | .row ps=>.row (ps.map P)
 | .side ps=>.side (ps.map P)
 | .again k p=>.again k (P p)
 | d=>d
noncomputable def keptD(ks:List Dm)(ms:List Nat):List Dm:=ms.map fun k=>reD (fun n=>ms.idxOf n) (ks.getD k (.hold 0))
def LmOk(ks:List Dm)(n:Nat):Prop:=∀d∈ks,∀l h b,d = .rise l h b->l<n
theorem WS{ls:List (Str×Int)}{ps:List (Str×Fm)}(W:WfB ls ps):∀n,n<=ps.length->LmOk (madeM (nmsOf ls) (nmsOf ps) (ps.take n)).1 ls.length
 | 0,_=>fun d h=>by simp[madeM]at h
 | n+1,hn=>by
  have hp:ps[n]?=some ps[n]:=List.getElem?_eq_getElem hn;have ih:=WS W n (by omega);rw[take_snoc hp,jL];generalize madeM (nmsOf ls) (nmsOf ps) (ps.take n)=st at ih;unfold stepM;dsimp only;split
  ·exact ih
  ·intro d hd l h b e;rcases mem_append.mp hd with hd | hd
   ·exact ih d hd l h b e
   ·rw[mem_singleton.mp hd]at e;generalize ep:ps[n]=p at e hp;obtain⟨nm,f⟩:=p;cases f with
    | rise x v m=>
     obtain⟨j,hj⟩:=W.r n nm x v m hp;have e1:(Dm.rise (ixOf (nmsOf ls) x) v m) = .rise l h b:=e;injection e1 with e1;rw[<-e1,qQ W.ln hj];have:=(List.getElem?_eq_some_iff.mp hj).1;rw[nmsOf,length_map]at this;exact this
    | hold n=>cases e
    | ring x n=>cases e
    | row qs=>cases e
    | side qs=>cases e
    | again k x=>cases e
noncomputable def numI(ms:List Nat):List (Key×V):=ms.zipIdx.map fun p=>(iK p.1,vN p.2)
theorem Kv(ms:List Nat)(m:Nat):numI (ms++[m])=numI ms++[(iK m,vN ms.length)]:=by
 unfold numI;rw[List.zipIdx_append,map_append];simp
theorem wt(ms:List Nat):(numI ms).length=ms.length:=by simp[numI]
theorem yt(ms:List Nat):(numI ms).map (·.1)=ms.map iK:=by
 unfold numI;rw[map_map];have e:∀(k:Nat) (xs:List Nat),(xs.zipIdx k).map ((fun x=>x.1)∘fun p:Nat×Nat=>(iK p.1,vN p.2))=xs.map iK:=fun k xs=>by
  induction xs generalizing k with
  | nil=>rfl
  | cons x r ih=>rw[List.zipIdx_cons,map_cons,map_cons,ih];rfl
 exact e 0 ms
theorem wu{ms:List Nat}(nd:ms.Nodup){m:Nat}(h:m∈ms):valV (numI ms) (iK m)=some (vN (ms.idxOf m)):=by
 refine ZW (j:=ms.idxOf m) (by rw[yt];exact pairwise_map.mpr (nd.imp fun h e=>h (Y8 e))) ?_;unfold numI;have hl:=idxOf_lt_length_of_mem h;rw[List.getElem?_map,List.getElem?_zipIdx,List.getElem?_eq_getElem hl,getElem_idxOf hl];simp
theorem WU{ms:List Nat}(h:ms.Pairwise (· < ·)):ms.Nodup:=h.imp fun h=>Nat.ne_of_lt h
theorem xA{H:Hp}{l an:Addr}{n:Nat}{ms:List Nat}{d:Dm}(el:H l=some (.lst ((List.range n).map vN)))(ea:H an=some (.dK (numI ms)))(nd:ms.Nodup)(hl:∀k h b,d = .rise k h b->k<n)(hn:∀j∈d.ns,j∈ms)(h8:d.ns.length<=8) :
  GMap H l an (gD d) (gD (reD (fun n=>ms.idxOf n) d)):=by
 have it:∀j∈d.ns,Itm H an (vN j) (vN (ms.idxOf j)):=fun j hj=>by
  refine .inr ?_;have g:=DGet.k (k:=iK j) ea;rw[wu nd (hn j hj)]at g;exact g
 have many:∀(s:Bool) (ps:List Nat),(∀j∈ps,j∈d.ns)->ps.length<=8->GMap H l an (.many s (ps.map vN)) (.many s ((ps.map fun n=>ms.idxOf n).map vN)):=fun s ps hp h8=>by
  refine⟨_,by rw[length_map,length_map,length_map],fun k x y hx hy=>?_,by rw[length_map];exact h8,rfl⟩;obtain⟨z,hz,rfl,hm⟩:=ze hx;rw[List.getElem?_map,List.getElem?_map,hz]at hy;cases hy;exact it z (hp z hm)
 cases d with
 | hold n=>rfl
 | ring x n=>rfl
 | rise k h b=>
  have hk:=hl k h b rfl;exact⟨.int (k:Nat),.inl ⟨_,_,el,rfl,L2.Jn (j:=k) (by rw[List.getElem?_map,List.getElem?_range hk];rfl)⟩,rfl⟩
 | row ps=>exact many false ps (fun j h=>h) h8
 | side ps=>exact many true ps (fun j h=>h) h8
 | again k p=>exact⟨_,it p mem_cons_self,rfl⟩
noncomputable def topM(ls:List (Str×Int))(ps:List (Str×Fm)):Nat:=(madeM (nmsOf ls) (nmsOf ps) ps).2.getD (ps.length-1) 0
noncomputable def drsM(ls:List (Str×Int))(ps:List (Str×Fm)):List Dm:=(madeM (nmsOf ls) (nmsOf ps) ps).1
def Kept(ls:List (Str×Int))(ps:List (Str×Fm))(ms:List Nat):Prop:=ms.Pairwise (· < ·)/\∀x,x∈ms↔Rc (drsM ls ps) (topM ls ps) x
inductive sp_drums(vs:List V)(H:Hp)(Q:VK)(xk:XK):Prop
 | mk (b pl pp:Addr) (las pas:List Addr) (ls:List (Str×Int)) (ps:List (Str×Fm)) (_:vs=[.ref b]) (_:BookAt H b pl pp las pas ls ps) (_:WfB ls ps) (_:1<=ps.length) (_:∀(t l f:Addr) (das:List Addr) (ms:List Nat) (H':Hp),Same H H'->H' t=some (.tup [.ref l,.ref f])->H' l=some (.lst (las.map V.ref))->H' f=some (.lst (das.map V.ref))->H l=none->H f=none->l≠f->DrAt H' das (keptD (drsM ls ps) ms)->Kept ls ps ms->Q (.ref t) H'):sp_drums vs H Q xk
structure MadeOk(ls:List (Str×Int))(ps:List (Str×Fm)):Prop where
 dw:Dwn (drsM ls ps)
 lm:LmOk (drsM ls ps) ls.length
 nd:(drsM ls ps).Nodup
 k61:(drsM ls ps).length<=61
 tp:topM ls ps<(drsM ls ps).length
theorem kM{ls:List (Str×Int)}{ps:List (Str×Fm)}(W:WfB ls ps)(n1:1<=ps.length):MadeOk ls ps:=by
 have M:=QU (nmsOf ls) (nmsOf ps) ps.length ps rfl;have d:=yS W ps.length (Nat.le_refl _);have l:=WS W ps.length (Nat.le_refl _);rw[take_length]at d l;refine⟨d,l,M.nd,Nat.le_trans M.lk W.p61,M.lt _ ?_⟩;unfold topM;rw[getD_eq_getElem?_getD,List.getElem?_eq_getElem (by rw[M.ln];omega)];exact getElem_mem _
theorem Kept.lt{ls:List (Str×Int)}{ps:List (Str×Fm)}{ms:List Nat}(K:Kept ls ps ms)(O:MadeOk ls ps){x:Nat}(h:x∈ms):x<=topM ls ps:=((K.2 x).mp h).le O.dw
theorem Kept.len{ls:List (Str×Int)}{ps:List (Str×Fm)}{ms:List Nat}(K:Kept ls ps ms)(O:MadeOk ls ps):ms.length<=61:=by
 have:=yT (n:=topM ls ps+1) (WU K.1) fun x hx=>by have:=K.lt O hx;omega
 have:=O.tp;have:=O.k61;omega
theorem Kept.sub{ls:List (Str×Int)}{ps:List (Str×Fm)}{ms:List Nat}(K:Kept ls ps ms){x j:Nat}(h:x∈ms)(hj:j∈((drsM ls ps).getD x (.hold 0)).ns):j∈ms:=(K.2 j).mpr (.sub ((K.2 x).mp h) hj)
inductive sp_roomB(K:Frg)(vs:List V)(H:Hp)(Q:VK)(xk:XK):Prop
 | mk (a:Addr) (ns:List Int) (_:vs=[.ref a]) (_:SqL K H a (ns.map V.int)) (_:ns.length<=63) (_:∀(z:Ra) (m:Rr) (H':Hp),Same H H'->RoomAt H' z m->Good m->1<=m.parts.length->(m.parts.length<=1\/m.parts.length+2<=ns.length)->H z.pl=none->H z.pp=none->(∀b u,H b=some u->z.off b)->Q (.ref z.r) H'):sp_roomB K vs H Q xk
theorem wX{xs:List V}:(cutV xs (some 2) (some 62)).length<=xs.length-2:=by
 unfold cutV;rw[length_take,length_drop,show HT.sIx xs.length 0 (some 2)=min 2 xs.length from HT.qE xs.length 0 2];omega
theorem pow55{H:Hp}{Q:VK}(h:Q (.int (10^55)) H):rI CPow (fun i j=>.int (i^j.toNat)) (.int 10) (.int 55) H Q:=⟨10,55,rfl,rfl,⟨by decide,by decide,by decide⟩,h⟩
noncomputable def addJ(m:Rr)(is:List Nat)(ks:List Int):Rr:=m.add (.row (is.map m.nm)) ks (is.map m.lg).sum
theorem ZR:∀{as bs:List Addr},as.map V.ref=bs.map V.ref->as=bs
 | [],[],_=>rfl
 | [],_::_,h=>by simp at h
 | _::_,[],h=>by simp at h
 | a::as,b::bs,h=>by
  rw[map_cons,map_cons]at h;injection h with h1 h2;injection h1 with h1;rw[h1,ZR h2]
def Away(H:Hp)(z:Ra)(p:Addr):Prop:=∀hs:List Addr,H z.ph=some (.lst (hs.map V.ref))->p∉hs
theorem RoomAt.but{H H':Hp}{z:Ra}{m:Rr}{p:Addr}{xs:List V}(R:RoomAt H z m)(aw:Away H z p)(ep:H p=some (.lst xs))(o:z.off p)(n1:p≠z.pn)(n2:p≠z.pl)(k:∀b u,b≠p->H b=some u->H' b=some u):RoomAt H' z m:=by
 have t:∀b ys,H b=some (.tup ys)->H' b=some (.tup ys):=fun b ys h=>k _ _ (qk h ep (fun z=>by cases z)) h
 obtain⟨ls,e1,a1⟩:=R.l;obtain⟨qs,e2,a2⟩:=R.p;obtain⟨hs,e3,a3⟩:=R.h;refine⟨k _ _ (qk R.d ep (fun z=>by cases z)) R.d,k _ _ (Ne.symm n1) R.n,⟨ls,k _ _ (Ne.symm n2) e1,a1.mono fun a x h=>t _ _ h⟩,⟨qs,k _ _ (Ne.symm o.1) e2,a2.mono fun a x h=>?_⟩,⟨hs,k _ _ (Ne.symm o.2.1) e3,a3.1,fun i a x h1 h2=>?_⟩,k _ _ (Ne.symm o.2.2) R.g,R.on,R.ol,R.ph,R.pg,R.hg⟩
 ·obtain⟨b,h1,h2⟩:=h;exact⟨b,t _ _ h1,Yl.mpr (GAt.tups t (Yl.mp h2))⟩
 ·obtain⟨h3,h4⟩:=a3.2 i a x h1 h2;exact⟨k _ _ (fun e=>aw hs e3 (e▸mem_of_getElem? h1)) h3,h4⟩
inductive sp_joined(vs:List V)(H:Hp)(Q:VK)(xk:XK):Prop
 | mk (z:Ra) (m:Rr) (l:Addr) (is:List Nat) (_:vs=[.ref z.r,.ref l]) (_:RoomAt H z m) (_:Good m) (_:H l=some (.lst (is.map vN))) (_:1<=is.length) (_:is.length<=8) (_:(∀j∈is,j<m.parts.length)) (_:(is.map m.lg).sum<=10^60) (_:m.parts.length<65) (_:∀(ks:List Int) (H':Hp),Kp z H H'->RoomAt H' z (addJ m is ks)->Good (addJ m is ks)->(∀p u,H p=some u->Away H z p->Away H' z p)->Q .non H'):sp_joined vs H Q xk
theorem W6{xs:List V}{k:Nat}:cutV xs none (some (k:Int))=xs.take k:=by
 unfold cutV;rw[show HT.sIx xs.length 0 none=0 from rfl,show HT.sIx xs.length xs.length (some (k:Int))=min k xs.length from HT.qE xs.length xs.length k,List.drop_zero,Nat.sub_zero];rcases Nat.lt_or_ge k xs.length with z | z
 ·rw[Nat.min_eq_left (by omega)]
 ·rw[Nat.min_eq_right z,take_length,take_of_length_le z]
theorem xG{is:List Nat}{i:Nat}(h:8*i<is.length):cutV (is.map vN) (some ((8*i:Nat):Int)) (some (((8*i:Nat):Int)+8))=((is.drop (8*i)).take 8).map vN:=by
 unfold cutV;rw[show HT.sIx (is.map vN).length 0 (some ((8*i:Nat):Int))=min (8*i) (is.map vN).length from HT.qE _ 0 _,show HT.sIx (is.map vN).length (is.map vN).length (some (((8*i:Nat):Int)+8))=min (8*i+8) (is.map vN).length from HT.qE _ _ (8*i+8),length_map,Nat.min_eq_left (show 8*i<=is.length by omega),map_take,map_drop];rcases Nat.lt_or_ge (8*i+8) is.length with z | z
 ·rw[Nat.min_eq_left (by omega)];congr 1;omega
 ·rw[Nat.min_eq_right z,take_of_length_le (by rw[length_drop,length_map];omega),take_of_length_le (by rw[length_drop,length_map];omega)]
theorem WK(is:List Nat):is.map vN=(is.map fun n:Nat=>(n:Int)).map V.int:=by rw[map_map];rfl
theorem y6{m:Rr}{c:Int}:∀{is:List Nat},(∀j∈is,m.lg j<=c)->(is.map m.lg).sum<=is.length*c
 | [],_=>by simp
 | j::r,h=>by
  have a:=y6 (m:=m) (is:=r) fun x hx=>h x (mem_cons_of_mem _ hx)
  have b:=h j mem_cons_self;rw[map_cons,sum_cons,length_cons];have e:((r.length+1:Nat):Int)*c=r.length*c+c:=by
   rw[Int.natCast_add,Int.add_mul];simp
  omega
structure Jo(m0:Rr)(n0 i:Nat)(m:Rr):Prop where
 ln:m.parts.length=n0+i
 lo:∀j,j<n0->m.lg j=m0.lg j
 hi:∀j,n0<=j->j<n0+i->m.lg j<=8*10^55
theorem Jo.add{m0 m:Rr}{n0 i:Nat}(J:Jo m0 n0 i m)(G:Good m){is:List Nat}{ks:List Int}(h8:is.length<=8)(hs:∀j∈is,j<n0/\m0.lg j<=10^55):Jo m0 n0 (i+1) (addJ m is ks):=by
 have gl:=G.gl;have ln:=J.ln;have e:∀j,j<m.longs.length->(addJ m is ks).lg j=m.lg j:=fun j h=>zK h
 refine⟨by unfold addJ;rw[qP,ln];omega,fun j hj=>by rw[e j (by omega)];exact J.lo j hj,fun j h1 h2=>?_⟩;rcases Nat.lt_or_ge j (n0+i)with z | z
 ·rw[e j (by omega)];exact J.hi j h1 z
 ·have ej:j=m.longs.length:=by omega
  rw[ej];have:(addJ m is ks).lg m.longs.length=(is.map m.lg).sum:=getD_last;rw[this];have:=y6 (m:=m) (c:=10^55) (is:=is) fun x hx=>by rw[J.lo x (hs x hx).1];exact(hs x hx).2
  omega
theorem kN:∀{a b:List Nat},a.Pairwise (· < ·)->b.Pairwise (· < ·)->(∀k,k∈a↔k∈b)->a=b
 | [],[],_,_,_=>rfl
 | [],y::b,_,_,h=>nomatch (h y).mpr mem_cons_self
 | x::a,[],_,_,h=>nomatch (h x).mp mem_cons_self
 | x::a,y::b,h1,h2,h=>by
  rw[List.pairwise_cons]at h1 h2;have e:x=y:=by
   rcases mem_cons.mp ((h x).mp mem_cons_self)with z | z
   ·exact z
   ·rcases mem_cons.mp ((h y).mpr mem_cons_self)with w | w
    ·exact w.symm
    ·have:=h1.1 y w;have:=h2.1 x z;omega
  subst e;rw[kN h1.2 h2.2 fun k=>?_];constructor
  ·intro hk;rcases mem_cons.mp ((h k).mp (mem_cons_of_mem _ hk))with z | z
   ·have:=h1.1 k hk;omega
   ·exact z
  ·intro hk;rcases mem_cons.mp ((h k).mpr (mem_cons_of_mem _ hk))with z | z
   ·have:=h2.1 k hk;omega
   ·exact z
theorem WH{lx px:List Str}{st:List Dm×List Nat}{p:Str×Fm}:∃j,(stepM lx px st p).2=st.2++[j]/\(stepM lx px st p).1[j]?=some (wiF lx px st.2 p.2)/\∀m,m<j->(stepM lx px st p).1[m]?≠some (wiF lx px st.2 p.2):=by
 unfold stepM;dsimp only;split
 ·rename_i hd;refine⟨_,rfl,?_,fun m hm e=>?_⟩
  ·have hl:=idxOf_lt_length_of_mem hd;rw[List.getElem?_eq_getElem hl,getElem_idxOf hl]
  ·obtain⟨h1,e1⟩:=List.getElem?_eq_some_iff.mp e;have:=List.not_of_lt_findIdx (p:=(· == wiF lx px st.2 p.2)) (xs:=st.1) hm;rw[e1]at this;simp at this
 ·rename_i hd;refine⟨_,rfl,by rw[List.getElem?_append_right (Nat.le_refl _),Nat.sub_self];rfl,fun m hm e=>hd ?_⟩;rw[List.getElem?_append_left hm]at e;exact mem_of_getElem? e
theorem xc{ms:List Nat}{x:Nat}(h:x∈ms):ms[ms.idxOf x]?=some x/\∀m,m<ms.idxOf x->ms[m]?≠some x:=by
 refine⟨?_,fun m hm e=>?_⟩
 ·have hl:=idxOf_lt_length_of_mem h;rw[List.getElem?_eq_getElem hl,getElem_idxOf hl]
 ·obtain⟨h1,e1⟩:=List.getElem?_eq_some_iff.mp e;have:=List.not_of_lt_findIdx (p:=(· == x)) (xs:=ms) hm;rw[e1]at this;simp at this
noncomputable def natD(n:Nat):PyData:=.int (n:Int)
noncomputable def dmD:Dm->PyData
 | .hold n=>.tuple [.str "hold",.int n]
 | .ring x n=>.tuple [.str "ring",.str x,.int n]
 | .rise l h n=>.tuple [.str "raise",natD l,.int h,.int n]
 | .row ps=>.tuple [.str "row",.tuple (ps.map natD)]
 | .side ps=>.tuple [.str "side",.tuple (ps.map natD)]
 | .again k p=>.tuple [.str "again",.int k,natD p]
theorem Zz{H:Hp}:∀ns:List Nat,DVs H (ns.map vN) (ns.map natD)
 | []=>.nil
 | n::r=>.cons (.int _) (Zz r)
theorem xJ{H:Hp}{a:Addr}{d:Dm}(h:GAt H a (gD d)):DV H (.ref a) (dmD d):=by
 cases d with
 | hold n=>exact .tup h (.cons (.str _) (.cons (.int _) .nil))
 | ring x n=>exact .tup h (.cons (.str _) (.cons (.str _) (.cons (.int _) .nil)))
 | rise l v n=>exact .tup h (.cons (.str _) (.cons (.int _) (.cons (.int _) (.cons (.int _) .nil))))
 | row ps=>obtain⟨b,h1,h2⟩:=h;exact .tup h1 (.cons (.str _) (.cons (.tup h2 (Zz ps)) .nil))
 | side ps=>obtain⟨b,h1,h2⟩:=h;exact .tup h1 (.cons (.str _) (.cons (.tup h2 (Zz ps)) .nil))
 | again k p=>exact .tup h (.cons (.str _) (.cons (.int _) (.cons (.int _) .nil)))
noncomputable def boxD(ls:List (Str×Int))(ks:List Dm):PyData:=.tuple [.list (ls.map limbD),.list (ks.map dmD)]
theorem K8{H:Hp}{t l f:Addr}{las das:List Addr}{ls:List (Str×Int)}{ks:List Dm}(et:H t=some (.tup [.ref l,.ref f]))(el:H l=some (.lst (las.map V.ref)))(la:All2 (LimbAt H) las ls)(ef:H f=some (.lst (das.map V.ref)))(da:DrAt H das ks):DV H (.ref t) (boxD ls ks):=
 .tup et (.cons (.lst el (zB (fun _ _ h=>Wa h) la)) (.cons (.lst ef (zB (fun _ _ h=>xJ h) da)) .nil))
theorem WY(P:Nat->Nat)(d:Dm):(reD P d).ns=d.ns.map P:=by cases d<;>rfl
end Rm
namespace L2
open PySem PySem.Spec PyProof.Rows
end L2
namespace Rm
open PySem PySem.Spec PyProof.Rows L2
theorem xz{f:Nat->Nat}{d e:Dm}(fi:∀a∈d.ns,∀b∈e.ns,f a=f b->a=b)(h:reD f d=reD f e):d=e:=by
 have lists:∀{ps qs:List Nat},(∀a∈ps,∀b∈qs,f a=f b->a=b)->ps.map f=qs.map f->ps=qs:=by
  intro ps
  induction ps with
  | nil=>intro qs _ h;cases qs with
   | nil=>rfl
   | cons=>simp at h
  | cons p ps ih=>
   intro qs fi h;cases qs with
   | nil=>simp at h
   | cons q qs=>
    rw[map_cons,map_cons]at h;injection h with h1 h2;rw[fi p mem_cons_self q mem_cons_self h1,ih (fun a ha b hb=>fi a (mem_cons_of_mem _ ha) b (mem_cons_of_mem _ hb)) h2]
 cases d with
 | row ps=>cases e with
  | row qs=>injection h with h;exact congrArg Dm.row (lists fi h)
  | _=>cases h
 | side ps=>cases e with
  | side qs=>injection h with h;exact congrArg Dm.side (lists fi h)
  | _=>cases h
 | again k p=>cases e with
  | again k' p'=>injection h with h1 h2;rw[h1,fi p mem_cons_self p' mem_cons_self h2]
  | _=>cases h
 | hold n=>cases e with
  | hold=>exact h
  | _=>cases h
 | ring x n=>cases e with
  | ring=>exact h
  | _=>cases h
 | rise l v n=>cases e with
  | rise=>exact h
  | _=>cases h
theorem YG{f g:Nat->Nat}{d:Dm}(h:∀n∈d.ns,f n=g n):reD f d=reD g d:=by
 cases d with
 | row ps=>exact congrArg Dm.row (map_congr_left h)
 | side ps=>exact congrArg Dm.side (map_congr_left h)
 | again k p=>show Dm.again k (f p) = .again k (g p);rw[h p mem_cons_self]
 | _=>rfl
section
variable{ls:List (Str×Int)}{ps:List (Str×Fm)}{ms:List Nat}
end
theorem ZT{lx px:List Str}{st:List Dm×List Nat}{p:Str×Fm}:∃j,(stepM lx px st p).2=st.2++[j]/\(stepM lx px st p).1[j]?=some (wiF lx px st.2 p.2)/\((j<st.1.length/\(stepM lx px st p).1=st.1)\/(j=st.1.length/\(stepM lx px st p).1.length=st.1.length+1)):=by
 obtain⟨j,h1,h2,_⟩:=WH (lx:=lx) (px:=px) (st:=st) (p:=p);refine⟨j,h1,h2,?_⟩;unfold stepM at h1|-;dsimp only at h1|-;split
 ·rename_i hd;rw[if_pos hd]at h1;have:st.1.idxOf (wiF lx px st.2 p.2)=j:=by
   have:=List.append_cancel_left h1;injection this
  exact .inl ⟨this▸idxOf_lt_length_of_mem hd,rfl⟩
 ·rename_i hd;rw[if_neg hd]at h1;have:st.1.length=j:=by
   have:=List.append_cancel_left h1;injection this
  exact .inr ⟨this.symm,by rw[List.length_append];rfl⟩
theorem xR(f g:Nat->Nat)(d:Dm):reD g (reD f d)=reD (fun n=>g (f n)) d:=by
 cases d with
 | row ps=>show Dm.row ((ps.map f).map g)=_;rw[map_map];rfl
 | side ps=>show Dm.side ((ps.map f).map g)=_;rw[map_map];rfl
 | _=>rfl
structure St(n:Int)(f:Nat->Nat)(s t:List Dm):Prop where
 mono:∀a b,a<b->b<s.length->f a<f b
 get:∀(a:Nat) (d:Dm),s[a]?=some d->t[f a]?=some (reD f d)
 or:∀(k:Nat) (d:Dm),t[k]?=some d->(∃a,a<s.length/\f a=k)\/d = .hold n
theorem St.inj{n:Int}{f:Nat->Nat}{s t:List Dm}(S:St n f s t){a b:Nat}(ha:a<s.length)(hb:b<s.length)(h:f a=f b):a=b:=by
 rcases Nat.lt_trichotomy a b with z | z | z
 ·have:=S.mono a b z hb;omega
 ·exact z
 ·have:=S.mono b a z ha;omega
theorem St.lt{n:Int}{f:Nat->Nat}{s t:List Dm}(S:St n f s t){a:Nat}(ha:a<s.length):f a<t.length:=(List.getElem?_eq_some_iff.mp (S.get a _ (List.getElem?_eq_getElem ha))).1
theorem Yy{α:Type}[DecidableEq α]{l:List α}(nd:l.Nodup){i:Nat}{x:α}(h:l[i]?=some x):l.idxOf x=i:=by
 obtain⟨h1,rfl⟩:=List.getElem?_eq_some_iff.mp h;exact nd.idxOf_getElem i h1
theorem St.one{n:Int}{f:Nat->Nat}{s t:List Dm}{lx px:List Str}{nt:List Nat}{q:Str×Fm}{a:Nat}{d:Dm}(S:St n f s t)(nd:t.Nodup)(ha:s[a]?=some d)(hq:wiF lx px nt q.2=reD f d):stepM lx px (t,nt) q=(t,nt++[f a]):=by
 have g:=S.get a d ha;unfold stepM;dsimp only;rw[hq,if_pos (mem_of_getElem? g),Yy nd g]
theorem St.more{n:Int}{f:Nat->Nat}{s t:List Dm}{lx px:List Str}{nt:List Nat}{x:Str}(S:St n f s t):St n f s (stepM lx px (t,nt) (x,.hold n)).1:=by
 unfold stepM;dsimp only;split
 ·exact S
 ·refine⟨S.mono,fun a d h=>?_,fun k d h=>?_⟩
  ·have g:=S.get a d h;rw[List.getElem?_append_left (List.getElem?_eq_some_iff.mp g).1];exact g
  ·rcases Nat.lt_or_ge k t.length with z | z
   ·rw[List.getElem?_append_left z]at h;exact S.or k d h
   ·rw[List.getElem?_append_right z]at h;have:=mem_of_getElem? h;exact .inr (mem_singleton.mp this)
theorem St.both{n:Int}{f:Nat->Nat}{s t:List Dm}{lx px lx' px':List Str}{ns nt:List Nat}{p q:Str×Fm}(S:St n f s t)(nd:t.Nodup)(dw:∀(i:Nat) (d:Dm),s[i]?=some d->∀j∈d.ns,j<i)(lt:∀j∈(wiF lx px ns p.2).ns,j<s.length)(nh:p.2≠.hold n)(hq:wiF lx' px' nt q.2=reD f (wiF lx px ns p.2)) :
  ∃f':Nat->Nat,St n f' (stepM lx px (s,ns) p).1 (stepM lx' px' (t,nt) q).1/\(∀a,a<s.length->f' a=f a)/\∃j,(stepM lx px (s,ns) p).2=ns++[j]/\(stepM lx px (s,ns) p).1[j]?=some (wiF lx px ns p.2)/\(stepM lx' px' (t,nt) q).2=nt++[f' j]:=by
 by_cases hd:wiF lx px ns p.2∈s
 ·have e1:stepM lx px (s,ns) p=(s,ns++[s.idxOf (wiF lx px ns p.2)]):=by
   unfold stepM;dsimp only;rw[if_pos hd]
  have hl:=idxOf_lt_length_of_mem hd;have ga:s[s.idxOf (wiF lx px ns p.2)]?=some (wiF lx px ns p.2):=by rw[List.getElem?_eq_getElem hl,getElem_idxOf hl]
  rw[S.one nd ga hq,e1];exact⟨f,S,fun _ _=>rfl,_,rfl,ga,rfl⟩
 ·have hw:∀x,wiF lx px ns p.2≠.hold x\/p.2 = .hold x:=fun x=>by
   cases p.2 with
   | hold y=>
    rcases Classical.em (y=x)with z | z
    ·exact .inr (by rw[z])
    ·exact .inl fun e=>z (by injection e)
   | _=>exact .inl fun e=>by cases e
  generalize ed:wiF lx px ns p.2=d at *;have hd':reD f d∉t:=fun z=>by
   obtain⟨k,hk⟩:=List.getElem?_of_mem z;rcases S.or k _ hk with⟨a,ha,rfl⟩ | e
   ·have g:=S.get a _ (List.getElem?_eq_getElem ha);rw[hk]at g;have:=xz (fun x hx y hy e=>S.inj (lt x hx) (Nat.lt_trans (dw a _ (List.getElem?_eq_getElem ha) y hy) ha) e) (Option.some.inj g);exact hd (this▸getElem_mem ha)
   ·rcases hw n with z | z
    ·cases d with
     | hold=>exact z e
     | _=>cases e
    ·exact nh z
  have e1:stepM lx px (s,ns) p=(s++[d],ns++[s.length]):=by
   unfold stepM;dsimp only;rw[ed,if_neg hd]
  have e2:stepM lx' px' (t,nt) q=(t++[reD f d],nt++[t.length]):=by
   unfold stepM;dsimp only;rw[hq,if_neg hd']
  rw[e1,e2];have cg:∀e:Dm,(∀j∈e.ns,j<s.length)->reD (fun a=>if a=s.length then t.length else f a) e=reD f e:=fun e h=>YG fun j hj=>if_neg (by have:=h j hj;omega)
  refine⟨fun a=>if a=s.length then t.length else f a,⟨fun a b hab hb=>?_,fun a e h=>?_,fun k e h=>?_⟩,fun a h=>if_neg (by omega),s.length,rfl,?_,?_⟩
  ·rw[List.length_append,length_singleton]at hb;rw[if_neg (by omega:¬a=s.length)];by_cases z:b=s.length
   ·rw[if_pos z];exact S.lt (by omega)
   ·rw[if_neg z];exact S.mono a b hab (by omega)
  ·rcases Nat.lt_or_ge a s.length with z | z
   ·rw[List.getElem?_append_left z]at h;have g:=S.get a e h;rw[if_neg (by omega:¬a=s.length),cg e fun j hj=>Nat.lt_trans (dw a e h j hj) z,List.getElem?_append_left (S.lt z)];exact g
   ·rw[List.getElem?_append_right z]at h;have z':=(List.getElem?_eq_some_iff.mp h).1;rw[length_singleton]at z';have ea:a=s.length:=by omega
    have ee:=mem_singleton.mp (mem_of_getElem? h);subst ee;rw[if_pos ea,cg _ lt,List.getElem?_append_right (Nat.le_refl _),Nat.sub_self];rfl
  ·rcases Nat.lt_or_ge k t.length with z | z
   ·rw[List.getElem?_append_left z]at h;rcases S.or k e h with⟨a,ha,e⟩ | e
    ·exact .inl ⟨a,by rw[List.length_append];omega,by rw[if_neg (by omega:¬a=s.length)];exact e⟩
    ·exact .inr e
   ·rw[List.getElem?_append_right z]at h;have z':=(List.getElem?_eq_some_iff.mp h).1;rw[length_singleton]at z';exact .inl ⟨s.length,by rw[List.length_append,length_singleton];omega,by rw[if_pos rfl];omega⟩
  ·rw[List.getElem?_append_right (Nat.le_refl _),Nat.sub_self];rfl
  ·show nt++[t.length]=nt++[if s.length=s.length then t.length else f s.length];rw[if_pos rfl]
def RenF(R:Str->Str->Prop)(p q:Fm):Prop:=match p with
 | .row ps=>∃qs,q = .row qs/\ps.length=qs.length/\∀(i:Nat) (x y:Str),ps[i]?=some x->qs[i]?=some y->R x y
 | .side ps=>∃qs,q = .side qs/\ps.length=qs.length/\∀(i:Nat) (x y:Str),ps[i]?=some x->qs[i]?=some y->R x y
 | .again k x=>∃y,q = .again k y/\R x y
 | p=>q=p
def NmR(px fr:List Str)(nh:List (List Nat))(x y:Str):Prop:=∃(j k:Nat),px[j]?=some x/\fr[k]?=some y/\k∈nh.getD j []
theorem yR{R:Str->Str->Prop}{g h:Str->Nat}(hr:∀x y,R x y->h y=g x):∀{ps qs:List Str},ps.length=qs.length->(∀(i:Nat) (x y:Str),ps[i]?=some x->qs[i]?=some y->R x y)->qs.map h=ps.map g
 | [],[],_,_=>rfl
 | [],_::_,e,_=>by cases e
 | _::_,[],e,_=>by cases e
 | p::ps,q::qs,e,r=>by
  rw[map_cons,map_cons,hr p q (r 0 p q rfl rfl),yR hr (Nat.succ.inj e) fun i x y h1 h2=>r (i+1) x y h1 h2]
theorem wT{R:Str->Str->Prop}{lx px fr:List Str}{f:Nat->Nat}{ns nt:List Nat}{p q:Fm}(hr:∀x y,R x y->nt.getD (ixOf fr y) 0=f (ns.getD (ixOf px x) 0))(h:RenF R p q):wiF lx fr nt q=reD f (wiF lx px ns p):=by
 cases p with
 | row ps=>
  obtain⟨qs,rfl,el,r⟩:=h;show Dm.row _=Dm.row _;rw[yR (g:=fun x=>f (ns.getD (ixOf px x) 0)) hr el r,map_map];rfl
 | side ps=>
  obtain⟨qs,rfl,el,r⟩:=h;show Dm.side _=Dm.side _;rw[yR (g:=fun x=>f (ns.getD (ixOf px x) 0)) hr el r,map_map];rfl
 | again k x=>
  obtain⟨y,rfl,r⟩:=h;show Dm.again _ _=Dm.again _ _;rw[hr x y r]
 | _=>rw[show q=_ from h];rfl
theorem RenF.ns{R:Str->Str->Prop}{p q:Fm}(h:RenF R p q):q.ns.length=p.ns.length/\∀y∈q.ns,∃x∈p.ns,R x y:=by
 have many:∀{ps qs:List Str},ps.length=qs.length->(∀(i:Nat) (x y:Str),ps[i]?=some x->qs[i]?=some y->R x y)->qs.length=ps.length/\∀y∈qs,∃x∈ps,R x y:=fun {ps qs} e r=>⟨e.symm,fun y hy=>by
  obtain⟨i,hi⟩:=List.getElem?_of_mem hy;have hl:=(List.getElem?_eq_some_iff.mp hi).1;exact⟨ps[i],getElem_mem _,r i _ y (List.getElem?_eq_getElem (by omega)) hi⟩⟩
 cases p with
 | row ps=>
  obtain⟨qs,rfl,el,r⟩:=h;exact many el r
 | side ps=>
  obtain⟨qs,rfl,el,r⟩:=h;exact many el r
 | again k x=>
  obtain⟨y,rfl,r⟩:=h;exact⟨rfl,fun z hz=>⟨x,mem_cons_self,by rw[mem_singleton.mp hz];exact r⟩⟩
 | _=>rw[show q=_ from h];exact⟨rfl,fun y hy=>nomatch hy⟩
theorem RenF.rise{R:Str->Str->Prop}{p:Fm}{x:Str}{a b:Int}(h:RenF R p (.rise x a b)):p = .rise x a b:=by
 cases p with
 | row ps=>obtain⟨_,e,_⟩:=h;cases e
 | side ps=>obtain⟨_,e,_⟩:=h;cases e
 | again k y=>obtain⟨_,e,_⟩:=h;cases e
 | _=>exact h.symm
theorem wm{ls:List (Str×Int)}{ps qs:List (Str×Fm)}{ms mt:List Nat}{n:Int}{f:Nat->Nat}(O:MadeOk ls ps)(S:St n f (drsM ls ps) (drsM ls qs))(ht:topM ls qs=f (topM ls ps))(K:Kept ls ps ms)(K':Kept ls qs mt):keptD (drsM ls ps) ms=keptD (drsM ls qs) mt:=by
 have lt:∀x∈ms,x<(drsM ls ps).length:=fun x hx=>Nat.lt_of_le_of_lt (K.lt O hx) O.tp
 have dt:∀x,x<(drsM ls ps).length->(drsM ls qs).getD (f x) (.hold 0)=reD f ((drsM ls ps).getD x (.hold 0)):=fun x hx=>by
  rw[getD_eq_getElem?_getD,getD_eq_getElem?_getD,S.get x _ (List.getElem?_eq_getElem hx),List.getElem?_eq_getElem hx];rfl
 have r1:∀x,Rc (drsM ls ps) (topM ls ps) x->Rc (drsM ls qs) (topM ls qs) (f x):=fun x h=>by
  induction h with
  | top=>rw[<-ht];exact .top
  | @sub y x h1 h2 ih=>
   refine .sub ih ?_;rw[dt y (lt y ((K.2 y).mpr h1)),WY];exact mem_map.mpr ⟨x,h2,rfl⟩
 have r2:∀y,Rc (drsM ls qs) (topM ls qs) y->∃x,Rc (drsM ls ps) (topM ls ps) x/\f x=y:=fun y h=>by
  induction h with
  | top=>exact⟨_,.top,ht.symm⟩
  | @sub y z h1 h2 ih=>
   obtain⟨x,hx,rfl⟩:=ih;rw[dt x (lt x ((K.2 x).mpr hx)),WY]at h2;obtain⟨w,hw,rfl⟩:=mem_map.mp h2;exact⟨w,.sub hx hw,rfl⟩
 have em:mt=ms.map f:=by
  refine kN K'.1 ?_ fun k=>(K'.2 k).trans ⟨fun h=>?_,fun h=>?_⟩
  ·exact pairwise_map.mpr (List.Pairwise.imp_of_mem (fun {a b} _ hb hab=>S.mono a b hab (lt b hb)) K.1)
  ·obtain⟨x,hx,rfl⟩:=r2 k h;exact mem_map.mpr ⟨x,(K.2 x).mpr hx,rfl⟩
  ·obtain⟨x,hx,rfl⟩:=mem_map.mp h;exact r1 x ((K.2 x).mp hx)
 subst em;have ndf:(ms.map f).Nodup:=K'.1.imp fun h=>Nat.ne_of_lt h
 unfold keptD;rw[map_map];refine map_congr_left fun x hx=>?_
 show _=reD _ ((drsM ls qs).getD (f x) (.hold 0));rw[dt x (lt x hx),xR];refine YG fun j hj=>?_
 have jm:j∈ms:=K.sub hx hj;exact(Yy ndf (by rw[List.getElem?_map,(xc jm).1];rfl)).symm
section
variable{lx px fr:List Str}{ps qs:List (Str×Fm)}{n:Int}{i:Nat}{nh:List (List Nat)}
structure Sec(lx px fr:List Str)(ps:List (Str×Fm))(n:Int)(i:Nat)(qs:List (Str×Fm))(nh:List (List Nat)):Prop where
 nm:nmsOf qs=fr.take qs.length
 nl:nh.length=i
 lt:∀(j:Nat),∀k∈nh.getD j [],k<qs.length
 wf:∀(k:Nat) (q:Str×Fm),qs[k]?=some q->(∀x∈q.2.ns,∃j,j<k/\fr[j]?=some x)/\q.2.ns.length<=8
 ri:∀(k:Nat) (y x:Str) (h b:Int),qs[k]?=some (y,.rise x h b)->∃j:Nat,lx[j]?=some x
 st:∃f,St n f (madeM lx px (ps.take i)).1 (madeM lx fr qs).1/\∀(j:Nat),∀k∈nh.getD j [],(madeM lx fr qs).2.getD k 0=f ((madeM lx px (ps.take i)).2.getD j 0)
theorem Sec.nil:Sec lx px fr ps n 0 [] []:=
 ⟨by simp[nmsOf],rfl,fun j k h=>by simp at h,fun k q h=>by simp at h,fun k y x a b h=>by simp at h,id,⟨fun a b _ h=>by simp[madeM]at h,fun a d h=>by simp[madeM]at h,fun k d h=>by simp[madeM]at h⟩,fun j k h=>by simp at h⟩
theorem ZF{q:Str×Fm}(h:nmsOf qs=fr.take qs.length)(hq:fr[qs.length]?=some q.1):nmsOf (qs++[q])=fr.take (qs++[q]).length:=by
 rw[List.length_append,length_singleton,take_snoc hq,<-h];unfold nmsOf;rw[map_append];rfl
theorem QR{α:Type}{l:List α}{x y:α}{k:Nat}(h:(l++[x])[k]?=some y):l[k]?=some y\/(k=l.length/\y=x):=by
 rcases Nat.lt_or_ge k l.length with z | z
 ·rw[List.getElem?_append_left z]at h;exact .inl h
 ·rw[List.getElem?_append_right z]at h;have z':=(List.getElem?_eq_some_iff.mp h).1;rw[length_singleton]at z';exact .inr ⟨by omega,mem_singleton.mp (mem_of_getElem? h)⟩
theorem Sec.hold{y:Str}(S:Sec lx px fr ps n i qs nh)(hy:fr[qs.length]?=some y):Sec lx px fr ps n i (qs++[(y,.hold n)]) nh:=by
 obtain⟨f,st,num⟩:=S.st;have M:=QU lx fr qs.length qs rfl;obtain⟨j,ej,_⟩:=ZT (lx:=lx) (px:=fr) (st:=madeM lx fr qs) (p:=(y,.hold n));refine⟨ZF S.nm hy,S.nl,fun j k hk=>by rw[List.length_append];have:=S.lt j k hk;omega,fun k q hq=>?_,fun k y' x a b hq=>?_,f,?_,fun j k hk=>?_⟩
 ·rcases QR hq with h | ⟨_,rfl⟩
  ·exact S.wf k q h
  ·exact⟨(fun x hx=>nomatch hx),Nat.zero_le _⟩
 ·rcases QR hq with h | ⟨_,h⟩
  ·exact S.ri k y' x a b h
  ·cases h
 ·rw[jL];exact st.more
 ·rw[jL,ej,getD_snoc (by rw[M.ln];exact S.lt j k hk)];exact num j k hk
theorem Sec.num{f:Nat->Nat}{ns nt:List Nat}{nh:List (List Nat)}(pn:px.Nodup)(fn:fr.Nodup)(h:∀(j:Nat),∀k∈nh.getD j [],nt.getD k 0=f (ns.getD j 0)):∀x y,NmR px fr nh x y->nt.getD (ixOf fr y) 0=f (ns.getD (ixOf px x) 0):=by
 rintro x y ⟨j,k,hj,hk,hm⟩;rw[qQ pn hj,qQ fn hk];exact h j k hm
theorem qA{nh:List (List Nat)}{a:List Nat}{j k:Nat}(h:k∈(nh++[a]).getD j []):(j<nh.length/\k∈nh.getD j [])\/(j=nh.length/\k∈a):=by
 rcases Nat.lt_trichotomy j nh.length with z | z | z
 ·rw[getD_snoc z]at h;exact .inl ⟨z,h⟩
 ·rw[z,getD_last]at h;exact .inr ⟨z,h⟩
 ·rw[getD_eq_getElem?_getD,List.getElem?_eq_none (by rw[List.length_append,length_singleton];omega)]at h;exact nomatch h
theorem Sec.wf'{q:Str×Fm}{nh0:List (List Nat)}{p:Str×Fm}(lt:∀(j:Nat),∀k∈nh0.getD j [],k<qs.length)(wf:∀(k:Nat) (q:Str×Fm),qs[k]?=some q->(∀x∈q.2.ns,∃j,j<k/\fr[j]?=some x)/\q.2.ns.length<=8)(hr:RenF (NmR px fr nh0) p.2 q.2)(p8:p.2.ns.length<=8):∀(k:Nat) (r:Str×Fm),(qs++[q])[k]?=some r->(∀x∈r.2.ns,∃j,j<k/\fr[j]?=some x)/\r.2.ns.length<=8:=fun k r h=>by
 rcases QR h with h | ⟨rfl,rfl⟩
 ·exact wf k r h
 ·obtain⟨e,h⟩:=hr.ns;refine⟨fun y hy=>?_,by omega⟩;obtain⟨x,_,j,k,_,hk,hm⟩:=h y hy;exact⟨k,lt j k hm,hk⟩
theorem Sec.ri'{q:Str×Fm}{R:Str->Str->Prop}{p:Str×Fm}(ri:∀(k:Nat) (y x:Str) (h b:Int),qs[k]?=some (y,.rise x h b)->∃j:Nat,lx[j]?=some x)(hr:RenF R p.2 q.2)(hp:∀(x:Str) (h b:Int),p.2 = .rise x h b->∃j:Nat,lx[j]?=some x):∀(k:Nat) (y x:Str) (h b:Int),(qs++[q])[k]?=some (y,.rise x h b)->∃j:Nat,lx[j]?=some x:=fun k y x a b h=>by
 rcases QR h with h | ⟨_,rfl⟩
 ·exact ri k y x a b h
 ·exact hp x a b hr.rise
theorem Sec.first{ls:List (Str×Int)}{p q:Str×Fm}(W:WfB ls ps)(fn:fr.Nodup)(S:Sec (nmsOf ls) (nmsOf ps) fr ps n i qs nh)(hp:ps[i]?=some p)(hr:RenF (NmR (nmsOf ps) fr nh) p.2 q.2)(hn:p.2≠.hold n)(hy:fr[qs.length]?=some q.1):Sec (nmsOf ls) (nmsOf ps) fr ps n (i+1) (qs++[q]) (nh++[[qs.length]]):=by
 obtain⟨f,st,num⟩:=S.st;have il:=(List.getElem?_eq_some_iff.mp hp).1;have M1:=QU (nmsOf ls) (nmsOf ps) i (ps.take i) (by rw[length_take];omega);have M:=QU (nmsOf ls) fr qs.length qs rfl;have dw:=yS W i (by omega);have hq:=wT (lx:=nmsOf ls) (Sec.num W.pn fn num) hr;have dw':=yS W (i+1) (by omega);have et:madeM (nmsOf ls) (nmsOf ps) (ps.take (i+1))=stepM (nmsOf ls) (nmsOf ps) (madeM (nmsOf ls) (nmsOf ps) (ps.take i)) p:=by rw[take_snoc hp,jL]
 have lt:∀j∈(wiF (nmsOf ls) (nmsOf ps) (madeM (nmsOf ls) (nmsOf ps) (ps.take i)).2 p.2).ns,j<(madeM (nmsOf ls) (nmsOf ps) (ps.take i)).1.length:=by
  obtain⟨j,_,h2,h3⟩:=ZT (lx:=nmsOf ls) (px:=nmsOf ps) (st:=madeM (nmsOf ls) (nmsOf ps) (ps.take i)) (p:=p);rw[<-et]at h2 h3;intro k hk;have:=dw'.lt j _ h2 k hk;rcases h3 with⟨h,_⟩ | ⟨h,_⟩<;>omega
 obtain⟨f',st',ag,j,e1,e2,e3⟩:=st.both (lx':=nmsOf ls) (px':=fr) (nt:=(madeM (nmsOf ls) fr qs).2) (q:=q) M.nd dw.lt lt hn hq;refine⟨ZF S.nm hy,by rw[List.length_append,S.nl];rfl,fun j k hk=>?_,Sec.wf' S.lt S.wf hr (W.f i p hp).2,Sec.ri' S.ri hr fun x h b e=>W.r i p.1 x h b (by rw[hp,<-e]),f',?_,fun j' k hk=>?_⟩
 ·rw[List.length_append,length_singleton];rcases qA hk with⟨_,h⟩ | ⟨_,h⟩
  ·have:=S.lt j k h;omega
  ·rw[mem_singleton.mp h];omega
 ·rw[et,jL];exact st'
 ·rw[et,jL,show(madeM (nmsOf ls) (nmsOf ps) (ps.take i))=((madeM (nmsOf ls) (nmsOf ps) (ps.take i)).1,(madeM (nmsOf ls) (nmsOf ps) (ps.take i)).2)from rfl,show(madeM (nmsOf ls) fr qs)=((madeM (nmsOf ls) fr qs).1,(madeM (nmsOf ls) fr qs).2)from rfl,e1,e3];rcases qA hk with⟨h1,h⟩ | ⟨h1,h⟩
  ·rw[S.nl]at h1;rw[getD_snoc (by rw[M.ln];exact S.lt j' k h),getD_snoc (by rw[M1.ln];exact h1),num j' k h,ag];refine M1.lt _ ?_;rw[getD_eq_getElem?_getD,List.getElem?_eq_getElem (by rw[M1.ln];exact h1)];exact getElem_mem _
  ·rw[mem_singleton.mp h,h1,S.nl];have a1:=getD_last (l:=(madeM (nmsOf ls) fr qs).2) (x:=f' j) (d:=0);have a2:=getD_last (l:=(madeM (nmsOf ls) (nmsOf ps) (ps.take i)).2) (x:=j) (d:=0);rw[M.ln]at a1;rw[M1.ln]at a2;rw[a1,a2]
theorem Sec.second{ls:List (Str×Int)}{p q:Str×Fm}{k0:Nat}(W:WfB ls ps)(fn:fr.Nodup)(S:Sec (nmsOf ls) (nmsOf ps) fr ps n (i+1) qs (nh++[[k0]]))(hp:ps[i]?=some p)(hr:RenF (NmR (nmsOf ps) fr nh) p.2 q.2)(hy:fr[qs.length]?=some q.1):Sec (nmsOf ls) (nmsOf ps) fr ps n (i+1) (qs++[q]) (nh++[[k0,qs.length]]):=by
 obtain⟨f,st,num⟩:=S.st;have il:=(List.getElem?_eq_some_iff.mp hp).1;have nl:nh.length=i:=by have:=S.nl;rw[List.length_append,length_singleton]at this;omega
 have M1:=QU (nmsOf ls) (nmsOf ps) i (ps.take i) (by rw[length_take];omega);have M:=QU (nmsOf ls) fr qs.length qs rfl;have et:madeM (nmsOf ls) (nmsOf ps) (ps.take (i+1))=stepM (nmsOf ls) (nmsOf ps) (madeM (nmsOf ls) (nmsOf ps) (ps.take i)) p:=by rw[take_snoc hp,jL]
 obtain⟨j,e1,e2,_⟩:=ZT (lx:=nmsOf ls) (px:=nmsOf ps) (st:=madeM (nmsOf ls) (nmsOf ps) (ps.take i)) (p:=p);rw[<-et]at e1 e2;have num0:∀(j:Nat),∀k∈nh.getD j [],(madeM (nmsOf ls) fr qs).2.getD k 0=f ((madeM (nmsOf ls) (nmsOf ps) (ps.take i)).2.getD j 0):=fun j' k hk=>by
  have hj:j'<nh.length:=by
   rcases Nat.lt_or_ge j' nh.length with z | z
   ·exact z
   ·rw[getD_eq_getElem?_getD,List.getElem?_eq_none z]at hk;exact nomatch hk
  have h:=num j' k (by rw[getD_snoc hj];exact hk);rw[e1,getD_snoc (by rw[M1.ln];omega)]at h;exact h
 have lt0:∀(j:Nat),∀k∈nh.getD j [],k<qs.length:=fun j k hk=>S.lt j k (by
  rcases Nat.lt_or_ge j nh.length with z | z
  ·rw[getD_snoc z];exact hk
  ·rw[getD_eq_getElem?_getD,List.getElem?_eq_none z]at hk;exact nomatch hk)
 have hq:=wT (lx:=nmsOf ls) (Sec.num W.pn fn num0) hr;have stp:=st.one (lx:=nmsOf ls) (px:=fr) (nt:=(madeM (nmsOf ls) fr qs).2) (q:=q) M.nd e2 hq;have em:madeM (nmsOf ls) fr (qs++[q])=((madeM (nmsOf ls) fr qs).1,(madeM (nmsOf ls) fr qs).2++[f j]):=by rw[jL];exact stp
 refine⟨ZF S.nm hy,by rw[List.length_append,nl];rfl,fun j k hk=>?_,Sec.wf' lt0 S.wf hr (W.f i p hp).2,Sec.ri' S.ri hr fun x h b e=>W.r i p.1 x h b (by rw[hp,<-e]),f,?_,fun j' k hk=>?_⟩
 ·rw[List.length_append,length_singleton];rcases qA hk with⟨_,h⟩ | ⟨_,h⟩
  ·have:=lt0 j k h;omega
  ·rcases mem_cons.mp h with h | h
   ·have:=S.lt nh.length k (by rw[getD_last,h];exact mem_cons_self);omega
   ·rw[mem_singleton.mp h];omega
 ·rw[em];exact st
 ·rw[em];have old:k<qs.length->k∈(nh++[[k0]]).getD j' []->((madeM (nmsOf ls) fr qs).2++[f j]).getD k 0=f ((madeM (nmsOf ls) (nmsOf ps) (ps.take (i+1))).2.getD j' 0):=fun hl h=>by
   rw[getD_snoc (by rw[M.ln];exact hl)];exact num j' k h
  rcases qA hk with⟨h1,h⟩ | ⟨h1,h⟩
  ·exact old (lt0 j' k h) (by rw[getD_snoc h1];exact h)
  ·rcases mem_cons.mp h with h | h
   ·have hm:k∈(nh++[[k0]]).getD j' []:=by rw[h1,getD_last,h];exact mem_cons_self
    exact old (S.lt _ _ hm) hm
   ·rw[mem_singleton.mp h,e1,h1,nl];have a1:=getD_last (l:=(madeM (nmsOf ls) fr qs).2) (x:=f j) (d:=0);have a2:=getD_last (l:=(madeM (nmsOf ls) (nmsOf ps) (ps.take i)).2) (x:=j) (d:=0);rw[M.ln]at a1;rw[M1.ln]at a2;rw[a1,a2]
theorem wS{lx xs ys:List Str}{ns:List Nat}{f:Fm}(h:∀x∈f.ns,ixOf xs x=ixOf ys x):wiF lx xs ns f=wiF lx ys ns f:=by
 cases f with
 | row qs=>exact congrArg Dm.row (map_congr_left fun x hx=>by rw[h x hx])
 | side qs=>exact congrArg Dm.side (map_congr_left fun x hx=>by rw[h x hx])
 | again k x=>show Dm.again _ _=Dm.again _ _;rw[h x mem_cons_self]
 | _=>rfl
theorem zh{lx xs ys:List Str}:∀(k:Nat),(∀q∈qs,∀x∈q.2.ns,ixOf xs x=ixOf ys x)->madeM lx xs (qs.take k)=madeM lx ys (qs.take k)
 | 0,_=>rfl
 | k+1,h=>by
  cases e:qs[k]? with
  | none=>rw[take_of_length_le (by have:=List.getElem?_eq_none_iff.mp e;omega),<-take_of_length_le (l:=qs) (i:=k) (List.getElem?_eq_none_iff.mp e)];exact zh k h
  | some q=>
   rw[take_snoc e,jL,jL,zh k h];unfold stepM;rw[wS (h q (mem_of_getElem? e))]
def LikeB(ls:List (Str×Int))(ps qs:List (Str×Fm)):Prop:=WfB ls qs/\1<=qs.length/\∀ms mt,Kept ls ps ms->Kept ls qs mt->keptD (drsM ls ps) ms=keptD (drsM ls qs) mt
theorem Sec.done{ls:List (Str×Int)}(W:WfB ls ps)(n1:1<=ps.length)(fn:fr.Nodup)(S:Sec (nmsOf ls) (nmsOf ps) fr ps n ps.length qs nh)(q60:qs.length<=60)(hl:qs.length-1∈nh.getD (ps.length-1) []):LikeB ls ps qs:=by
 have O:=kM W n1;have M1:=QU (nmsOf ls) (nmsOf ps) ps.length ps rfl;have lq:=S.lt _ _ hl;have pn:(nmsOf qs).Nodup:=by rw[S.nm];exact List.Nodup.sublist (take_sublist _ _) fn
 have at_:∀{j:Nat} {x:Str},j<qs.length->fr[j]?=some x->(nmsOf qs)[j]?=some x:=fun {j x} h e=>by rw[S.nm,List.getElem?_take,if_pos h];exact e
 have W2:WfB ls qs:=⟨W.ln,W.l8,pn,by omega,fun k q hq=>⟨fun x hx=>by
  obtain⟨j,h1,h2⟩:=(S.wf k q hq).1 x hx;exact⟨j,h1,at_ (Nat.lt_trans h1 (List.getElem?_eq_some_iff.mp hq).1) h2⟩,(S.wf k q hq).2⟩,S.ri⟩
 have em:madeM (nmsOf ls) (nmsOf qs) qs=madeM (nmsOf ls) fr qs:=by
  have:=zh (lx:=nmsOf ls) (xs:=nmsOf qs) (ys:=fr) (qs:=qs) qs.length fun q hq x hx=>by
   obtain⟨k,hk⟩:=List.getElem?_of_mem hq;obtain⟨j,h1,h2⟩:=(S.wf k q hk).1 x hx;rw[qQ fn h2,qQ pn (at_ (Nat.lt_trans h1 (List.getElem?_eq_some_iff.mp hk).1) h2)]
  rw[take_length]at this;exact this
 obtain⟨f,st,num⟩:=S.st;rw[take_length]at st num;refine⟨W2,by omega,fun ms mt K K'=>wm (n:=n) (f:=f) O ?_ ?_ K K'⟩
 ·unfold drsM;rw[em];exact st
 ·unfold topM;rw[em];exact num _ _ hl
end
inductive sp_namesT(vs:List V)(H:Hp)(Q:VK)(xk:XK):Prop
 | mk (c:Int) (n:Nat) (_:vs=[.int c,.int (n:Nat)]) (_:n<=68) (_:∀(p:Addr) (ws:List Str) (H':Hp),Same H H'->H p=none->H' p=some (.lst (ws.map V.str))->ws.length=n->ws.Nodup->(∀x∈ws,Ws.isW x=true)->Q (.ref p) H'):sp_namesT vs H Q xk
theorem Yv{way:Int}{b:List Nat}{a n:Nat}{ws:List Str}(n68:n<=68)(hb:∀c∈b,97<=c/\c<=122)(hl:b.length<=6)(hw:ws.length=n)(h:∀j,j<n->(ws[j]?).map (·.cps.toList)=some (nmL way b a j)) :
  ws.Nodup/\∀x∈ws,Ws.isW x=true:=by
 have h':∀j (hj:j<ws.length),ws[j].cps.toList=nmL way b a j:=fun j hj=>by
  have e:=h j (by omega);rw[List.getElem?_eq_getElem hj]at e;exact Option.some.inj e
 constructor
 ·refine pairwise_iff_getElem.mpr fun i j hi hj hij e=>?_
  have e1:=h' i hi;rw[e,h' j hj]at e1;have:=Wn (by omega) (by omega) e1;omega
 ·intro x hx;obtain⟨j,hj,rfl⟩:=mem_iff_getElem.mp hx;have e:=h' j hj;refine xf ?_ ?_ ?_<;>rw[e]
  ·exact(kP hl).1
  ·exact(kP hl).2
  ·exact fun c hc=>Wo hb (by omega) hc
inductive sp_roomT(K:Frg)(vs:List V)(H:Hp)(Q:VK)(xk:XK):Prop
 | mk (a:Addr) (ns:List Int) (_:vs=[.ref a]) (_:SqL K H a (ns.map V.int)) (_:ns.length<=63) (_:∀(z:Ra) (m:Rr) (H':Hp),Same H H'->RoomAt H' z m->Good m->1<=m.parts.length->m.parts.length<=60->H z.pl=none->H z.pp=none->Q (.ref z.r) H'):sp_roomT K vs H Q xk
theorem PartAt.tups{H H':Hp}{a:Addr}{p:Str×Fm}(s:∀b xs,H b=some (.tup xs)->H' b=some (.tup xs))(h:PartAt H a p):PartAt H' a p:=by
 obtain⟨b,h1,h2⟩:=h;exact⟨b,s _ _ h1,Yl.mpr (GAt.tups s (Yl.mp h2))⟩
def HereAt(fr:List Str)(H:Hp)(a:Addr)(ks:List Nat):Prop:=H a=some (.lst (ks.map fun k=>V.str (fr.getD k ⟨#[]⟩)))
noncomputable def refG(xs:List Str)(vs:List Addr):List (Key×V):=(xs.zip vs).map fun q=>(Sum.inr q.1,.ref q.2)
theorem KE{xs:List Str}{vs:List Addr}{x:Str}{v:Addr}(h:xs.length=vs.length):refG (xs++[x]) (vs++[v])=refG xs vs++[(Sum.inr x,.ref v)]:=by
 unfold refG;rw[List.zip_append h,map_append];rfl
theorem YI{xs:List Str}{vs:List Addr}(h:xs.length=vs.length):(refG xs vs).length=xs.length:=by
 unfold refG;rw[length_map,length_zip];omega
theorem yx{xs:List Str}{vs:List Addr}(h:xs.length=vs.length):(refG xs vs).map (·.1)=xs.map Sum.inr:=by
 unfold refG;rw[map_map];show(xs.zip vs).map (fun q=>Sum.inr q.1)=_;rw[show(fun q:Str×Addr=>(Sum.inr q.1:Key))=Sum.inr∘Prod.fst from rfl,<-map_map,List.map_fst_zip (by omega)]
theorem YJ{xs:List Str}{vs:List Addr}(h:xs.length=vs.length)(nd:xs.Nodup){j:Nat}{x:Str}{a:Addr}(e:xs[j]?=some x)(ea:vs[j]?=some a):valV (refG xs vs) (Sum.inr x)=some (.ref a):=by
 refine ZW (j:=j) (by rw[yx h];exact pairwise_map.mpr (nd.imp fun h e=>h (Sum.inr.inj e))) ?_;unfold refG;rw[List.getElem?_map,List.getElem?_zip_eq_some.mpr (show xs[j]?=some (x,a).1/\vs[j]?=some (x,a).2 from⟨e,ea⟩)];rfl
def HasN(R:Str->Str->Prop)(H:Hp)(G:List (Key×V))(x:Str):Prop:=∃(a:Addr) (ws:List Str),valV G (Sum.inr x)=some (.ref a)/\H a=some (.lst (ws.map V.str))/\1<=ws.length/\ws.length<=2/\∀w∈ws,R x w
theorem HasN.same{R:Str->Str->Prop}{H H':Hp}{G:List (Key×V)}{x:Str}(s:Same H H')(h:HasN R H G x):HasN R H' G x:=let ⟨a,ws,h1,h2,h3⟩:=h;⟨a,ws,h1,s _ _ h2,h3⟩
inductive sp_renamed(vs:List V)(H:Hp)(Q:VK)(xk:XK):Prop
 | mk (b d l:Addr) (p:Fm) (R:Str->Str->Prop) (G:List (Key×V)) (ns:List Int) (_:vs=[.ref b,.ref d,.ref l]) (_:FormAt H b p) (_:p.ns.length<=8) (_:H d=some (.dK G)) (_:H l=some (.lst (ns.map V.int))) (_:ns.length=8) (_:(∀n∈ns,0<=n)) (_:(∀x∈p.ns,HasN R H G x)) (_:∀(c:Addr) (q:Fm) (H':Hp),Same H H'->FormAt H' c q->RenF R p q->Q (.ref c) H'):sp_renamed vs H Q xk
inductive sp_free(vs:List V)(H:Hp)(Q:VK)(xk:XK):Prop
 | mk (pp:Addr) (pas:List Addr) (ps:List (Str×Fm)) (_:vs=[.ref pp]) (_:H pp=some (.lst (pas.map V.ref))) (_:All2 (PartAt H) pas ps) (_:ps.length<=61) (_:∀(n:Int) (H':Hp),Same H H'->(∀p∈ps,p.2≠.hold n)->Q (.int n) H'):sp_free vs H Q xk
inductive sp_second(K:Frg)(vs:List V)(H:Hp)(Q:VK)(xk:XK):Prop
 | mk (a pp:Addr) (ns:List Int) (pas:List Addr) (ls:List (Str×Int)) (ps:List (Str×Fm)) (_:vs=[.ref a,.ref pp]) (_:SqL K H a (ns.map V.int)) (_:ns.length<=63) (_:H pp=some (.lst (pas.map V.ref))) (_:All2 (PartAt H) pas ps) (_:WfB ls ps) (_:1<=ps.length) (_:ps.length<=60) (_:∀(r:Addr) (mas:List Addr) (qs:List (Str×Fm)) (H':Hp),Same H H'->H' r=some (.lst (mas.map V.ref))->All2 (PartAt H') mas qs->LikeB ls ps qs->Q (.ref r) H'):sp_second K vs H Q xk
theorem WT{ls:List (Str×Int)}{ps:List (Str×Fm)}(B:BkOk ls ps):∀n,n<=ps.length->∀d∈(madeM (nmsOf ls) (nmsOf ps) (ps.take n)).1,∀x b,d = .ring x b->Ws.isW x=true
 | 0,_=>fun d h=>by simp[madeM]at h
 | n+1,hn=>by
  have hp:ps[n]?=some ps[n]:=List.getElem?_eq_getElem hn;have ih:=WT B n (by omega);rw[take_snoc hp,jL];generalize madeM (nmsOf ls) (nmsOf ps) (ps.take n)=st at ih;unfold stepM;dsimp only;split
  ·exact ih
  ·intro d hd x b e;rcases mem_append.mp hd with hd | hd
   ·exact ih d hd x b e
   ·rw[mem_singleton.mp hd]at e;have w:=(B.pn _ (getElem_mem (h:=hn))).2;generalize ps[n]=p at e w;obtain⟨nm,f⟩:=p;cases f with
    | ring y m=>
     have e1:(Dm.ring y m) = .ring x b:=e;injection e1 with e1;rw[<-e1];exact w.1
    | hold n=>cases e
    | rise x v n=>cases e
    | row qs=>cases e
    | side qs=>cases e
    | again k x=>cases e
theorem xD{d:Dm}(h:∀x b,d = .ring x b->Ws.isW x=true):Shp 2 (dmD d):=by
 have sw:∀{x:Str},Ws.isW x=true->Shp 1 (.str x):=fun h=>ZS (xs:=[_]) (fun y hy=>by rw[mem_singleton.mp hy];exact h) _ (mem_singleton.mpr rfl)
 have nats:∀ps:List Nat,Shp 1 (.tuple (ps.map natD)):=fun ps=>Shp.tup (n:=0) fun d hd=>by
  obtain⟨n,_,rfl⟩:=mem_map.mp hd;exact Shp.int
 have i1:∀{i:Int},Shp 1 (.int i):=Shp.int.mono (Nat.zero_le _);have tag:∀{x:Str},PyData.strOk x=true->Shp 1 (.str x):=fun h=>(Shp.str h).mono (Nat.zero_le _)
 cases d with
 | hold n=>exact Shp.tup (forall_mem_cons.mpr ⟨tag (by decide +kernel),forall_mem_cons.mpr ⟨i1,fun _ h=>nomatch h⟩⟩)
 | ring x n=>exact Shp.tup (forall_mem_cons.mpr ⟨tag (by decide +kernel),forall_mem_cons.mpr ⟨sw (h x n rfl),forall_mem_cons.mpr ⟨i1,fun _ h=>nomatch h⟩⟩⟩)
 | rise l v n=>exact Shp.tup (forall_mem_cons.mpr ⟨tag (by decide +kernel),forall_mem_cons.mpr ⟨i1,forall_mem_cons.mpr ⟨i1,forall_mem_cons.mpr ⟨i1,fun _ h=>nomatch h⟩⟩⟩⟩)
 | row ps=>exact Shp.tup (forall_mem_cons.mpr ⟨tag (by decide +kernel),forall_mem_cons.mpr ⟨nats ps,fun _ h=>nomatch h⟩⟩)
 | side ps=>exact Shp.tup (forall_mem_cons.mpr ⟨tag (by decide +kernel),forall_mem_cons.mpr ⟨nats ps,fun _ h=>nomatch h⟩⟩)
 | again k p=>exact Shp.tup (forall_mem_cons.mpr ⟨tag (by decide +kernel),forall_mem_cons.mpr ⟨i1,forall_mem_cons.mpr ⟨i1,fun _ h=>nomatch h⟩⟩⟩)
theorem WG{ls:List (Str×Int)}{ps:List (Str×Fm)}{ms:List Nat}(B:BkOk ls ps):Shp 5 (boxD ls (keptD (drsM ls ps) ms)):=by
 have mw:=WT B ps.length (Nat.le_refl _);rw[take_length]at mw;refine Shp.tup (n:=4) (forall_mem_cons.mpr ⟨KH B,forall_mem_cons.mpr ⟨?_,fun _ h=>nomatch h⟩⟩);refine(Shp.lst (n:=2) fun d hd=>?_).mono (by decide);obtain⟨e,he,rfl⟩:=mem_map.mp hd;obtain⟨k,_,rfl⟩:=mem_map.mp he;refine xD fun x b er=>?_
 rw[getD_eq_getElem?_getD]at er;cases ek:(drsM ls ps)[k]? with
 | none=>rw[ek]at er;cases er
 | some d=>
  rw[ek]at er;cases d with
  | ring y c=>
   have e1:Dm.ring y c = .ring x b:=er;injection e1 with e1;rw[<-e1];exact mw _ (mem_of_getElem? ek) y c rfl
  | _=>cases er
theorem wk(n:Int):∀ks:List Int,(ks.filter fun k=>decide (k<=n-1)).length<=(ks.filter fun k=>decide (k<=n)).length
 | []=>Nat.le_refl _
 | k::ks=>by
  have ih:=wk n ks;rw[filter_cons,filter_cons];by_cases h1:k<=n-1
  ·rw[if_pos (decide_eq_true h1),if_pos (decide_eq_true (by omega)),length_cons,length_cons];omega
  ·rw[if_neg (by simp only[decide_eq_true_eq];omega)];split
   ·rw[length_cons];omega
   ·exact ih
theorem ke{n:Int}:∀{ks:List Int},n∈ks->(ks.filter fun k=>decide (k<=n-1)).length<(ks.filter fun k=>decide (k<=n)).length
 | k::ks,h=>by
  rw[filter_cons,filter_cons];by_cases h1:k<=n-1
  ·have hm:n∈ks:=by
    rcases mem_cons.mp h with z | z
    ·omega
    ·exact z
   have ih:=ke hm;rw[if_pos (decide_eq_true h1),if_pos (decide_eq_true (by omega)),length_cons,length_cons];omega
  ·rw[if_neg (by simp only[decide_eq_true_eq];omega)];rcases mem_cons.mp h with z | z
   ·rw[if_pos (decide_eq_true (by omega)),length_cons];have:=wk n ks;omega
   ·have ih:=ke z;split
    ·rw[length_cons];omega
    ·exact ih
theorem yn{ks:List Int}{ps:List (Str×Fm)}{i:Nat}{p:Str×Fm}(hk:∀n:Int,n∉ks->∀p∈ps.take i,p.2≠.hold n)(hp:ps[i]?=some p){ks':List Int}(sub:∀n,n∈ks->n∈ks')(h:∀n,p.2 = .hold n->n∈ks'):∀n:Int,n∉ks'->∀p∈ps.take (i+1),p.2≠.hold n:=fun n hn q hq e=>by
 rw[take_snoc hp]at hq;rcases mem_append.mp hq with z | z
 ·exact hk n (fun z=>hn (sub n z)) q z e
 ·rw[mem_singleton.mp z]at e;exact hn (h n e)
theorem pick{n:Int}{ws:List Str}(h1:1<=ws.length):∃w∈ws,atI (ws.map V.str) (n%(ws.length:Int))=some (.str w):=by
 have a:=Int.emod_nonneg n (show(ws.length:Int)≠0 by omega);have b:=Int.emod_lt_of_pos n (show 0<(ws.length:Int) by omega);have hj:(n%(ws.length:Int)).toNat<ws.length:=by omega
 refine⟨ws[(n%(ws.length:Int)).toNat],getElem_mem _,?_⟩;have g:(ws.map V.str)[(n%(ws.length:Int)).toNat]?=some (.str ws[(n%(ws.length:Int)).toNat]):=by rw[List.getElem?_map,List.getElem?_eq_getElem hj];rfl
 have e:=Jn g;rw[Int.toNat_of_nonneg a,Int.zero_add]at e;exact e
theorem YL{R:Str->Str->Prop}{xs ys:List Str}{x y:Str}(hr:∀(j:Nat) (x y:Str),xs[j]?=some x->ys[j]?=some y->R x y)(hx:xs[ys.length]?=some x)(h:R x y):∀(j:Nat) (x y':Str),xs[j]?=some x->(ys++[y])[j]?=some y'->R x y':=fun j x' y' h1 h2=>by
 rcases QR h2 with z | ⟨rfl,rfl⟩
 ·exact hr j x' y' h1 z
 ·rw[hx]at h1;injection h1 with h1;rw[<-h1];exact h
theorem W5{fs:List Int}{i:Nat}(h:8*i+8<=fs.length):cutV (fs.map V.int) (some ((8*i:Nat):Int)) (some (((8*i:Nat):Int)+8))=((fs.drop (8*i)).take 8).map V.int:=by
 unfold cutV;rw[show HT.sIx (fs.map V.int).length 0 (some ((8*i:Nat):Int))=min (8*i) (fs.map V.int).length from HT.qE _ 0 _,show HT.sIx (fs.map V.int).length (fs.map V.int).length (some (((8*i:Nat):Int)+8))=min (8*i+8) (fs.map V.int).length from HT.qE _ _ (8*i+8),length_map,Nat.min_eq_left (show 8*i<=fs.length by omega),map_take,map_drop,Nat.min_eq_left (by omega)];congr 1;omega
structure SecAt(fr:List Str)(nms:List Str)(d pm:Addr)(B:Hp)(i:Nat)(qs:List (Str×Fm))(nh:List (List Nat))(has mas:List Addr)(H:Hp):Prop where
 hd:H d=some (.dK (refG (nms.take i) has))
 hl:has.length=i
 hh:All2 (HereAt fr H) has nh
 h2:∀ks∈nh,1<=ks.length/\ks.length<=2
 hm:H pm=some (.lst (mas.map V.ref))
 mp:All2 (PartAt H) mas qs
 hb:∀a∈has,B a=none
 kp:∀b u,b≠d->b≠pm->B b=some u->H b=some u
theorem Wf{lx px fr:List Str}{ps qs:List (Str×Fm)}{n:Int}{i:Nat}{nh:List (List Nat)}{H:Hp}{has:List Addr}{p1:Addr}{x:Str}{j:Nat}(pn:px.Nodup)(il:i<px.length)(S:Sec lx px fr ps n i qs nh)(q60:qs.length<=fr.length)(hl:has.length=i)(hh:All2 (HereAt fr H) has nh)(h2:∀ks∈nh,1<=ks.length/\ks.length<=2)(hj:j<i)(hx:px[j]?=some x):HasN (NmR px fr nh) H (refG (px.take (i+1)) (has++[p1])) x:=by
 have nl:=S.nl;have hk:nh[j]?=some nh[j]:=List.getElem?_eq_getElem (by omega);obtain⟨a,ea,ha⟩:=hh.get hk;obtain⟨k1,k2⟩:=h2 _ (mem_of_getElem? hk);refine⟨a,nh[j].map fun k=>fr.getD k ⟨#[]⟩,YJ (j:=j) (by rw[length_take,List.length_append,length_singleton];omega) (List.Nodup.sublist (take_sublist _ _) pn) (by rw[List.getElem?_take,if_pos (by omega)];exact hx) (by rw[List.getElem?_append_left (by omega)];exact ea),?_,by rw[length_map];exact k1,by rw[length_map];exact k2,fun w hw=>?_⟩
 ·rw[map_map];exact ha
 ·obtain⟨k,hm,rfl⟩:=mem_map.mp hw;have hg:k∈nh.getD j []:=by rw[getD_eq_getElem?_getD,hk];exact hm
  have lt:=S.lt j k hg;exact⟨j,k,hx,by rw[getD_eq_getElem?_getD,List.getElem?_eq_getElem (by omega)];rfl,hg⟩
theorem HereAt.put{fr:List Str}{H:Hp}{a:Addr}{ks:List Nat}{k:Nat}{y:Str}(h:fr[k]?=some y):upd H a (.lst ((ks.map fun k=>V.str (fr.getD k ⟨#[]⟩))++[.str y])) a=some (.lst ((ks++[k]).map fun k=>V.str (fr.getD k ⟨#[]⟩))):=by
 rw[jf,map_append,List.map_singleton,getD_eq_getElem?_getD,h];rfl
theorem YF{H:Hp}{pm p:Addr}{mas:List Addr}{qs:List (Str×Fm)}{q:Str×Fm}(hm:H pm=some (.lst (mas.map V.ref)))(mp:All2 (PartAt H) mas qs)(hq:PartAt H p q):upd H pm (.lst (mas.map V.ref++[.ref p])) pm=some (.lst ((mas++[p]).map V.ref))/\All2 (PartAt (upd H pm (.lst (mas.map V.ref++[.ref p])))) (mas++[p]) (qs++[q])/\∀b u,b≠pm->H b=some u->upd H pm (.lst (mas.map V.ref++[.ref p])) b=some u:=by
 have k:∀b u,b≠pm->H b=some u->upd H pm (.lst (mas.map V.ref++[.ref p])) b=some u:=fun b u n h=>(jk n).trans h
 have t:∀b xs,H b=some (.tup xs)->upd H pm (.lst (mas.map V.ref++[.ref p])) b=some (.tup xs):=fun b xs h=>k _ _ (qk h hm (fun z=>by cases z)) h
 exact⟨by rw[jf,map_append];rfl,(mp.mono fun b x h=>h.tups t).snoc (hq.tups t),k⟩
theorem KU{fr:List Str}{k:Nat}{y:Str}(h:fr[k]?=some y):atI (fr.map V.str) ((k:Nat):Int)=some (.str y):=by
 have g:(fr.map V.str)[k]?=some (.str y):=by rw[List.getElem?_map,h];rfl
 have e:=Jn g;rw[Int.zero_add]at e;exact e
theorem get8{fs:List Int}{k:Nat}(l:fs.length=20)(hk:k<=1):((fs.drop (8*k)).take 8).length=8:=by
 rw[length_take,length_drop];omega
end Rm
theorem L2.fsc{N P:List PySem.Str}{sc:PySem.Scope}(a:sc.kind = .function:=by rfl)(b:sc.isCoroutine=false:=by rfl)(c:sc.isGenerator=false:=by rfl)(d:N.Nodup:=by decide +kernel)(e:N.take P.length=P:=by rfl)(f:∀x∈P,sc.names.lookup x=some .local\/sc.names.lookup x=some .cell:=by decide +kernel)(g:∀y∈sc.names,y.2≠.free:=by decide +kernel):L2.FnScope N P sc:=⟨a,b,c,d,e,f,g⟩
structure PySem.W.Fast:Prop where
  (tw17000288526990300008 tw14911318918092075137 tw6814976922844724717 tw1706180489674541480 tw6932176074453673488 tw15249623486353685073 tw4035120831717161466 tw17150219721866561961 tw12446531997654799718 tw1535393145797185171 tw15331161895233112297 tw15362344658918821542 tw14511011761855876149 tw7091312418407699995 tw5747958175825610968 tw8861940686586444732 tw15061617089179644720 tw51959358115582135 tw11665922534005065040 tw6611426207587841854 tw11720403133953197149 tw13883986499749519669 tw15993494624332646731 tw9521720672980599898 tw9771063980930587727 tw2515424247684803269 tw7241342334970463635 tw16438432465442803198 tw4537317224495774961 tw7190841258792563589 tw14059773132212959116 tw4479952094527620836 tw5337444971342412081 tw15566349530449326420 tw1356347367640297238 tw8592722394361991614 tw608952664723113508 tw1912276997570608931 tw13606708620101212555 tw6539962548578163485 tw3557377125303835966 tw5405363757021936128 tw9376372705550287314 tw6826839573604514271 tw9381322949410148891 tw1120942468556994257 tw16024985948591271472 tw8417228487848163544 tw9203954225439721763 tw18392532538430625768 tw307491586254379675 tw8231393427762110718 tw678200218720634095 tw681950405223275577 tw11607629424607205417 tw15225931533267077344 tw5796324461065906722 tw17689364051341720789 tw14023990559556031325 tw9394050440760754904 tw11462908466052290474 tw5186681568515146040 tw13503505285988315776 tw5684685979250785876 tw13298340575126567707 tw8157358062792303910 tw15222378584236298022 tw16709847191567442405 tw7935072891498631631 tw18401801329558892323 tw10399290367498573108 tw18028782094602496026 tw4178378136797260793 tw18215792656102557085 tw11686459990728295776 tw11547025303015899083 tw1165808545457787659 tw6645533883432226678 tw11898398936297092536 tw6125043085936080812 tw7834133356287698762 tw10599564501296301828 tw1623823541996984854 tw7431280069025661774 tw13051345257041048645 tw6705362367698262509 tw11247858208910156193 tw15142411675779052811 tw5073989115370375357 tw11596615698356724000 tw8455620274622410991 tw17072446264366097495 tw6374147210132856088:True)
theorem Rm.iteE0{b:Bool}{A B:Prop}(h:B)(e:b=false:=by decide +kernel):if b=true then A else B:=Rm.iteB0 e h
theorem Rm.iteE1{b:Bool}{A B:Prop}(h:A)(e:b=true:=by decide +kernel):if b=true then A else B:=Rm.iteB1 e h
namespace K36
open PySem L2 Rm
noncomputable def top(i:Nat):Stmt:=PySem.Challenge.pw_camplay_k36_like_books.main.body.getD i (.Pass ⟨0,0,0,0⟩)
noncomputable abbrev QH:Stmt:=top 2
theorem qF:FnScope ["named","numbers","number","one"] ["named"] (defScope QH):=fsc
noncomputable abbrev zj:Stmt:=top 3
theorem YO:FnScope ["form"] ["form"] (defScope zj):=fsc
noncomputable abbrev Qf:Stmt:=top 5
theorem y1:FnScope ["form","limbs","parts"] ["form","limbs","parts"] (defScope Qf):=fsc
noncomputable abbrev kn:Stmt:=top 6
theorem Q3:FnScope ["book","limbs","numbers","known","name","form"] ["book"] (defScope kn):=fsc
noncomputable abbrev zS:Stmt:=top 7
theorem QI:FnScope ["forms","drum","needed","number","other"] ["forms","drum"] (defScope zS):=fsc
noncomputable abbrev Zr:Stmt:=top 8
theorem qK:FnScope ["book","found","forms","kept","limbs","anew","place","number"] ["book"] (defScope Zr):=fsc
noncomputable abbrev Qa:Stmt:=top 10
theorem Zi:FnScope ["_law_script","_law_k"] ["_law_script","_law_k"] (defScope Qa):=fsc
noncomputable abbrev Qr:Stmt:=top 11
theorem Qd:FnScope ["_law_cell","_law_turn","_law_k"] ["_law_cell","_law_turn"] (defScope Qr):=fsc
noncomputable abbrev Qq:Stmt:=top 12
theorem jN:FnScope ["_law_cell","_law_many","_law_found","_law_number_here","_law_k"] ["_law_cell","_law_many"] (defScope Qq):=fsc
noncomputable abbrev qT:Stmt:=top 13
theorem j3:FnScope ["_law_cell","_law_many","_law_letters","_law_some","_law_base","_law_at","_law_names_here","_law_k","_law_two"] ["_law_cell","_law_many"] (defScope qT):=fsc
noncomputable abbrev Qn:Stmt:=top 14
theorem Qc:FnScope ["_law_cell","_law_mixed","_law_least","_law_way","_law_power"] ["_law_cell","_law_mixed","_law_least"] (defScope Qn):=fsc
noncomputable abbrev zi:Stmt:=top 15
theorem YM:FnScope ["_law_room_here","_law_form","_law_hands","_law_long"] ["_law_room_here","_law_form","_law_hands","_law_long"] (defScope zi):=fsc
noncomputable abbrev Qp:Stmt:=top 16
theorem qv:FnScope ["_law_room_here","_law_cell","_law_some","_law_beats","_law_limb","_law_high"] ["_law_room_here","_law_cell","_law_some"] (defScope Qp):=fsc
noncomputable abbrev QG:Stmt:=top 17
theorem zd:FnScope ["_law_room_here","_law_number_here","_law_many"] ["_law_room_here","_law_number_here"] (defScope QG):=fsc
noncomputable abbrev qS:Stmt:=top 18
theorem jS:FnScope ["_law_room_here","_law_some","_law_there_here","_law_hands","_law_k","_law_first","_law_step","_law_one","_law_here"] ["_law_room_here","_law_some"] (defScope qS):=fsc
noncomputable abbrev Jh:Stmt:=top 19
theorem jA:FnScope ["_law_room_here","_law_cell","_law_some","_law_there_here","_law_long","_law_hands","_law_one","_law_names_here","_law_times"] ["_law_room_here","_law_cell","_law_some"] (defScope Jh):=fsc
noncomputable abbrev QX:Stmt:=top 20
theorem jT:FnScope ["_law_script","_law_first","_law_names_here","_law_limbs","_law_k","_law_at","_law_high","_law_room_here","_law_cell","_law_some"] ["_law_script"] (defScope QX):=fsc
noncomputable abbrev JB:Stmt:=top 21
theorem JG:FnScope ["_law_room_here","_law_there_here","_law_hands","_law_one","_law_names_here"] ["_law_room_here","_law_there_here"] (defScope JB):=fsc
noncomputable abbrev J3:Stmt:=top 22
theorem Jm:FnScope ["_law_script","_law_room_here","_law_there_here","_law_rows","_law_first"] ["_law_script"] (defScope J3):=fsc
noncomputable abbrev Qb:Stmt:=top 23
theorem Ju:FnScope ["_law_form","_law_names_here","_law_some","_law_here","_law_chosen","_law_k"] ["_law_form","_law_names_here","_law_some"] (defScope Qb):=fsc
noncomputable abbrev Qe:Stmt:=top 24
theorem qU:FnScope ["_law_parts","_law_used","_law_free_here"] ["_law_parts"] (defScope Qe):=fsc
noncomputable abbrev Qo:Stmt:=top 25
theorem jx:FnScope ["_law_script","_law_parts","_law_fresh","_law_free_here","_law_more","_law_names_here","_law_made","_law_name","_law_form","_law_cell","_law_some","_law_k"] ["_law_script","_law_parts"] (defScope Qo):=fsc
noncomputable abbrev wM:Stmt:=top 26
theorem y2:FnScope ["_law_script","_law_room_here","_law_first","_law_other"] ["_law_script"] (defScope wM):=fsc
set_option genInjectivity false in
set_option genSizeOf false in
structure Ad where
 qo:Addr
 qr:FuncData
 qX:Addr
 qY:FuncData
 qi:Addr
 qj:FuncData
 Zu:Addr
 Zy:FuncData
 Qs:Addr
 Qt:FuncData
 zq:Addr
 zA:FuncData
 j5:Addr
 j6:FuncData
 jQ:Addr
 jR:FuncData
 jY:Addr
 jZ:FuncData
 JJ:Addr
 JM:FuncData
 Je:Addr
 Jf:FuncData
 qc:Addr
 qd:FuncData
 Jw:Addr
 Jx:FuncData
 JK:Addr
 JN:FuncData
 qm:Addr
 qq:FuncData
 JV:Addr
 JY:FuncData
 qH:Addr
 qJ:FuncData
 JU:Addr
 JX:FuncData
 Jq:Addr
 Js:FuncData
 JD:Addr
 JE:FuncData
 qG:Addr
 qI:FuncData
 JW:Addr
 JZ:FuncData
 kx:Addr
 Yh:FuncData
 JQ:Addr
structure Txt(K:Frg)(mg:Str->Option Value)(t:Ad):Prop where
 zo:Fun K "numbers_of" "numbers_of" QH t.qo t.qr
 yQ:mg "numbers_of"= some (.ref t.qo)
 yB:Binds K t.qr ["named"] []
 Zt:Fun K "names_in" "names_in" zj t.qX t.qY
 kf:mg "names_in"= some (.ref t.qX)
 YW:Binds K t.qY ["form"] []
 QL:Fun K "form_with" "form_with" Qf t.qi t.qj
 Zc:mg "form_with"= some (.ref t.qi)
 zV:Binds K t.qj ["form","limbs","parts"] []
 KO:Fun K "made" "made" kn t.Zu t.Zy
 xq:mg "made"= some (.ref t.Zu)
 W0:Binds K t.Zy ["book"] []
 Z9:Fun K "come_to" "come_to" zS t.Qs t.Qt
 Ku:mg "come_to"= some (.ref t.Qs)
 Kb:Binds K t.Qt ["forms","drum"] []
 yC:Fun K "drums" "drums" Zr t.zq t.zA
 kL:mg "drums"= some (.ref t.zq)
 kw:Binds K t.zA ["book"] []
 j4:Fun K "_law_cell_at" "_law_cell_at" Qa t.j5 t.j6
 Jl:mg "_law_cell_at"= some (.ref t.j5)
 Jj:Binds K t.j6 ["_law_script","_law_k"] []
 jX:Fun K "_law_window" "_law_window" Qr t.jQ t.jR
 Jg:mg "_law_window"= some (.ref t.jQ)
 Jc:Binds K t.jR ["_law_cell","_law_turn"] []
 Jv:Fun K "_law_stream" "_law_stream" Qq t.jY t.jZ
 J0:mg "_law_stream"= some (.ref t.jY)
 JS:Binds K t.jZ ["_law_cell","_law_many"] []
 Qy:Fun K "_law_names" "_law_names" qT t.JJ t.JM
 zD:mg "_law_names"= some (.ref t.JJ)
 zk:Binds K t.JM ["_law_cell","_law_many"] []
 JT:Fun K "_law_number" "_law_number" Qn t.Je t.Jf
 qB:mg "_law_number"= some (.ref t.Je)
 qw:Binds K t.Jf ["_law_cell","_law_mixed","_law_least"] []
 JC:Fun K "_law_add" "_law_add" zi t.qc t.qd
 qg:mg "_law_add"= some (.ref t.qc)
 qa:Binds K t.qd ["_law_room_here","_law_form","_law_hands","_law_long"] []
 qx:Fun K "_law_simple" "_law_simple" Qp t.Jw t.Jx
 Ql:mg "_law_simple"= some (.ref t.Jw)
 Qh:Binds K t.Jx ["_law_room_here","_law_cell","_law_some"] []
 Qz:Fun K "_law_there" "_law_there" QG t.JK t.JN
 zE:mg "_law_there"= some (.ref t.JK)
 zm:Binds K t.JN ["_law_room_here","_law_number_here"] []
 zn:Fun K "_law_apart" "_law_apart" qS t.qm t.qq
 yP:mg "_law_apart"= some (.ref t.qm)
 yA:Binds K t.qq ["_law_room_here","_law_some"] []
 Q7:Fun K "_law_naming" "_law_naming" Jh t.JV t.JY
 Z2:mg "_law_naming"= some (.ref t.JV)
 ZX:Binds K t.JY ["_law_room_here","_law_cell","_law_some"] []
 zX:Fun K "_law_room" "_law_room" QX t.qH t.qJ
 Yq:mg "_law_room"= some (.ref t.qH)
 Yb:Binds K t.qJ ["_law_script"] []
 Qi:Fun K "_law_joined" "_law_joined" JB t.JU t.JX
 za:mg "_law_joined"= some (.ref t.JU)
 Q6:Binds K t.JX ["_law_room_here","_law_there_here"] []
 QJ:Fun K "_law_gathered" "_law_gathered" J3 t.Jq t.Js
 Zf:mg "_law_gathered"= some (.ref t.Jq)
 Zd:Binds K t.Js ["_law_script"] []
 QK:Fun K "_law_renamed" "_law_renamed" Qb t.JD t.JE
 ZE:mg "_law_renamed"= some (.ref t.JD)
 Zs:Binds K t.JE ["_law_form","_law_names_here","_law_some"] []
 zW:Fun K "_law_free" "_law_free" Qe t.qG t.qI
 Yp:mg "_law_free"= some (.ref t.qG)
 Ya:Binds K t.qI ["_law_parts"] []
 Q8:Fun K "_law_second" "_law_second" Qo t.JW t.JZ
 Z3:mg "_law_second"= some (.ref t.JW)
 ZY:Binds K t.JZ ["_law_script","_law_parts"] []
 WM:Fun K "law" "law" wM t.kx t.Yh
 xN:mg "law"= some (.ref t.kx)
 xV:Binds K t.Yh ["_law_script"] []
 zY:mg "enumerate"= none
 KY:mg "int"= none
 yF:mg "isinstance"= none
 Jr:mg "len"= none
 yG:mg "list"= none
 WN:mg "max"= none
 WO:mg "min"= none
 JL:mg "range"= none
 zu:mg "sorted"= none
 KZ:mg "sum"= none
 zv:mg "tuple"= none
 yI:mg "MOST_NAMES"= some (.ref t.JQ)
 JO:TabK K t.JQ [("row",.flat (.int 8)),("side",.flat (.int 4))]
section
variable{P:Program}{w:World}{K:Frg}{mg:Str->Option Value}{base:Heap}{t:Ad}
theorem yW(T:Txt K mg t):FnOk P w K mg base CX0 1 t.qi t.qj ["form","limbs","parts"] (sp_formW):=by
 refine T.QL.ok y1 (fun vs H Q E h=>?_) (fun cdv A outer s H vs Q E hr h=>?_)
 ·cases h;subst_vars;rfl
 obtain⟨a,l,p,g,g',rfl,ha,hm,q⟩:=h;refine⟨_,(jd (Jt (jt JR (ji jC (pv 0) jb) jr (nomark _))
   (jg (jH (jh Wv (j8 (ja (ji jC (pv 0) jb) (ja (ji (ka (K:=K) rfl (jI hr)) (pv 1) (ji jC (pv 0) jb)) jc))) (Jb wO (pv 0) (j9 jb) qD))))
   jM)
  (jd (Jt (jt JR (ji jC (pv 0) jb) jr (nomark _))
   (jg (jH (j8 (ja (ji jC (pv 0) jb) (ja (ji jC (pv 0) jb) (ja (ji (ka (K:=K) rfl (jI hr)) (pv 2) (ji jC (pv 0) jb)) jc))))))
   jM)
  (jd (Jt (jt zQ (ji jC (pv 0) jb) (j8 (ja jr (ja jr jc))) (by with_unfolding_all rfl))
   (jg (jH (j8 (ja (ji jC (pv 0) jb) (ja (Jz qz (by rfl) T.zv QO (ja (qR (ow:=["other"]) (ci:=[2]) rfl (CompScope.of (defScope Qf) ["form","limbs","parts"] rfl rfl (by decide +kernel)) (J2 (by decide)) (wD (ji jC (pv 0) jb)) (fun _ _ _ _ _=>⟨(jv (i:=0) (qp ["form","limbs","parts"] rfl (by decide +kernel)) rfl (.inl rfl)),QV,(ji (ka (K:=K) rfl (jI hr)) (pv 1) (pv 0))⟩)) jc)) jc)))))
   jM)
  (jg (jH (pv 0)))))),?_⟩
 refine jE (σ':=[some _,some _,some _]) rfl ?_;have sz:(200:Nat)<sizeLine:=by decide
 cases g with
 | smp r vs=>
  cases hm;cases r with
  | false=>
   have h1:H a=some (.tup (.str "hold"::vs)):=ha;exists ixTm (SqT.of h1) (at0) ?_;exists iteE0 ?_;exists ixTm (SqT.of h1) (at0) ?_;exists iteE0 ?_;exists ixTm (SqT.of h1) (at0) ?_;exists⟨by show 2<=sizeLine;omega,?_⟩;walk_at"f 1 t";refine⟨p1,_,rfl,.inr (SqT.of t1),rfl,rfl,_,rfl,?_⟩;refine iteE0 ?_;walk_at"g";exact q a H1 s1 (s1 _ _ h1)
  | true=>
   have h1:H a=some (.tup (.str "ring"::vs)):=ha;exists ixTm (SqT.of h1) (at0) ?_;exists iteE0 ?_;exists ixTm (SqT.of h1) (at0) ?_;exists iteE0 ?_;exists ixTm (SqT.of h1) (at0) ?_;exists⟨by show 2<=sizeLine;omega,?_⟩;walk_at"f 1 t";refine⟨p1,_,rfl,.inr (SqT.of t1),rfl,rfl,_,rfl,?_⟩;refine iteE0 ?_;walk_at"g";exact q a H1 s1 (s1 _ _ h1)
 | rise x h n=>
  have h1:H a=some (.tup [.str "raise",x,h,n]):=ha;obtain⟨y,iy,rfl⟩:=hm;exists ixTm (SqT.of h1) rfl ?_;exists iteE1 ?_;exists ixTm (SqT.of h1) rfl ?_;exists ixTm (SqT.of h1) rfl ?_;refine yN iy ?_;exists⟨by show 2<=sizeLine;omega,?_⟩;walk_at"f 1 t";exists⟨a,_,rfl,SqT.of (s1 _ _ h1),(by show¬(HT.sIx 4 0 (some 2)=0/\HT.sIx 4 4 none=4);decide),?_⟩;walk_at"f 2 t";refine⟨p1,p2,_,_,rfl,rfl,SqT.of (s2 _ _ t1),SqT.of t2,(fun z=>by cases z),?_,?_,?_⟩
  ·show 2+2<=sizeLine;omega
  ·intro z;cases z
  intro _;walk_at"f 3 t";exact q p3 H3 (s1.trans (s2.trans s3)) t3
 | again k x=>
  have h1:H a=some (.tup [.str "again",k,x]):=ha;obtain⟨y,iy,rfl⟩:=hm;exists ixTm (SqT.of h1) rfl ?_;exists iteE0 ?_;exists ixTm (SqT.of h1) rfl ?_;exists iteE1 ?_;exists ixTm (SqT.of h1) rfl ?_;exists ixTm (SqT.of h1) rfl ?_;exists ixTm (SqT.of h1) rfl ?_;refine yN iy ?_;exists⟨by show 3<=sizeLine;omega,?_⟩;walk_at"f 1 t";exact q p1 H1 s1 t1
 | many s xs=>
  obtain⟨ys,yl,im,x8,rfl⟩:=hm;cases s with
  | false=>
   obtain⟨b,h1,h2⟩:=ha;have h1:H a=some (.tup [.str "row",.ref b]):=h1;exists ixTm (SqT.of h1) rfl ?_;exists iteE0 ?_;exists ixTm (SqT.of h1) rfl ?_;exists iteE0 ?_;exists ixTm (SqT.of h1) rfl ?_;exists⟨by show 2<=sizeLine;omega,?_⟩;walk_at"f 1 t";refine⟨p1,_,rfl,.inr (SqT.of t1),rfl,rfl,_,rfl,?_⟩;refine iteE1 ?_;exists ixTm (SqT.of (s1 _ _ h1)) rfl ?_;exists ixTm (SqT.of (s1 _ _ h1)) rfl ?_;refine⟨b,rfl,⟨_,SqT.of (s1 _ _ h2)⟩,?_⟩;refine Yg (xs:=xs) (fun i zs H'=>zs=ys.take i/\H1=H') ⟨rfl,rfl⟩ ?_ ?_ ?_
   ·rintro i zs H' _ ⟨rfl,rfl⟩;exact SqT.of (s1 _ _ h2)
   ·rintro i x zs H' hx ⟨rfl,rfl⟩;have hi:=(List.getElem?_eq_some_iff.mp hx).1;have hy:ys[i]?=some ys[i]:=List.getElem?_eq_getElem (by omega);refine qu (σ':=[none,some _]) rfl ?_;exists iteT ?_;exists yN ((im i x _ hx hy).same s1) ?_;refine⟨by rw[length_take];omega,?_,rfl⟩;rw[take_snoc hy]
   rintro zs H' ⟨rfl,rfl⟩;rw[<-yl,take_length];refine⟨by omega,?_⟩;walk_at"f 2 t";exists⟨p2,_,rfl,.inl ⟨SqL.of t2,?_⟩⟩;walk_at"f 3 t";exists⟨by show 2<=sizeLine;omega,?_⟩;walk_at"f 4 t";exact q p4 H4 (s1.trans (s2.trans (s3.trans s4))) ⟨p3,t4,s4 _ _ t3⟩
  | true=>
   obtain⟨b,h1,h2⟩:=ha;have h1:H a=some (.tup [.str "side",.ref b]):=h1;exists ixTm (SqT.of h1) rfl ?_;exists iteE0 ?_;exists ixTm (SqT.of h1) rfl ?_;exists iteE0 ?_;exists ixTm (SqT.of h1) rfl ?_;exists⟨by show 2<=sizeLine;omega,?_⟩;walk_at"f 1 t";refine⟨p1,_,rfl,.inr (SqT.of t1),rfl,rfl,_,rfl,?_⟩;refine iteE1 ?_;exists ixTm (SqT.of (s1 _ _ h1)) rfl ?_;exists ixTm (SqT.of (s1 _ _ h1)) rfl ?_;refine⟨b,rfl,⟨_,SqT.of (s1 _ _ h2)⟩,?_⟩;refine Yg (xs:=xs) (fun i zs H'=>zs=ys.take i/\H1=H') ⟨rfl,rfl⟩ ?_ ?_ ?_
   ·rintro i zs H' _ ⟨rfl,rfl⟩;exact SqT.of (s1 _ _ h2)
   ·rintro i x zs H' hx ⟨rfl,rfl⟩;have hi:=(List.getElem?_eq_some_iff.mp hx).1;have hy:ys[i]?=some ys[i]:=List.getElem?_eq_getElem (by omega);refine qu (σ':=[none,some _]) rfl ?_;exists iteT ?_;exists yN ((im i x _ hx hy).same s1) ?_;refine⟨by rw[length_take];omega,?_,rfl⟩;rw[take_snoc hy]
   rintro zs H' ⟨rfl,rfl⟩;rw[<-yl,take_length];refine⟨by omega,?_⟩;walk_at"f 2 t";exists⟨p2,_,rfl,.inl ⟨SqL.of t2,?_⟩⟩;walk_at"f 3 t";exists⟨by show 2<=sizeLine;omega,?_⟩;walk_at"f 4 t";exact q p4 H4 (s1.trans (s2.trans (s3.trans s4))) ⟨p3,t4,s4 _ _ t3⟩
theorem Z7(T:Txt K mg t):FnOk P w K mg base CX0 1 t.qo t.qr ["named"] (sp_numbers_of):=by
 refine T.zo.ok qF (fun vs H Q E h=>?_) (fun cdv A outer s H vs Q E hr h=>?_)
 ·cases h;subst_vars;rfl
 obtain⟨l,as,xs,rfl,el,hl,ha,nd,h100,q⟩:=h;refine⟨_,(jd (jj (i:=1) qF.nd rfl (.inl rfl) zF)
  (jd (Jp PassesOwn.never rfl (kT (by rfl) T.zY (ja (pv 0) jc)) (ZP rfl (J1 (jv (i:=2) qF.nd rfl (.inl rfl)) (J1 (jv (i:=3) qF.nd rfl (.inl rfl)) zG)))
   (jg (zH (jI hr) (pv 1) (ji jC (pv 3) jb) (pv 2) rfl)))
  (jg (jH (pv 1))))),?_⟩
 refine jE (σ':=[some _,none,none,none]) rfl ?_;have sz:(200:Nat)<sizeLine:=by decide
 walk_at"g";walk_at"f d hd H1 s1 t1";exists⟨l,_,rfl,SqL.of (s1 _ _ el),?_⟩;refine Yk (xs:=as.map V.ref) (fun i σ H'=>∃o2 o3:Option V,σ=[some (.ref l),some (.ref d),o2,o3]/\Same H H'/\H' d=some (.dK (numK (xs.take i)))) ⟨_,_,rfl,s1,t1⟩ ?_ ?_ ?_
 ·rintro i σ H' _ ⟨o2,o3,rfl,sm,ed⟩;exact SqL.of (sm _ _ el)
 ·rintro i v σ H' P H'' hx ⟨o2,o3,rfl,sm,ed⟩ sP tP;rw[List.getElem?_map]at hx;obtain⟨a,ea,rfl⟩:=Option.map_eq_some_iff.mp hx;have hi:=(List.getElem?_eq_some_iff.mp ea).1;have ex:xs[i]?=some xs[i]:=List.getElem?_eq_getElem (by omega);obtain⟨r,er⟩:=ha i a _ ea ex;have s2:=sm.trans sP;have tl:(xs.take i).length=i:=by rw[length_take];omega
  refine ZQ (SqT.of tP) ?_;exists ixTm (SqT.of (s2 _ _ er)) rfl ?_;refine⟨d,_,rfl,DPut.k (k:=Sum.inr xs[i]) (sP _ _ ed) (by rw[wv,tl];omega),?_⟩;have hk:(Sum.inr xs[i]:Key)∉(numK (xs.take i)).map (·.1):=fun z=>by
   rw[yu]at z;obtain⟨y,hy,e⟩:=mem_map.mp z;have e':y=xs[i]:=Sum.inr.inj e;subst e';obtain⟨j,hj,e⟩:=mem_iff_getElem.mp hy;rw[getElem_take]at e;rw[tl]at hj;exact absurd e (pairwise_iff_getElem.mp nd j i (by omega) (by omega) hj)
  refine⟨_,_,rfl,fun b u h=>(jk (je h hd)).trans (s2 _ _ h),?_⟩;rw[jf,QW hk,take_snoc ex,Kw,tl]
 rintro σ' H' ⟨o2,o3,rfl,sm,ed⟩;rw[length_map,hl,take_length]at ed;walk_at"g";exact q d H' sm hd ed
theorem Wu(T:Txt K mg t)(QB:FnOk P w K mg base CX0 1 t.qo t.qr ["named"] (sp_numbers_of))(qh:FnOk P w K mg base CX0 1 t.qi t.qj ["form","limbs","parts"] (sp_formW)):FnOk P w K mg base CX0 2 t.Zu t.Zy ["book"] (sp_made):=by
 refine T.KO.ok Q3 (fun vs H Q E h=>?_) (fun cdv A outer s H vs Q E hr h=>?_)
 ·cases h;subst_vars;rfl
 obtain⟨b,pl,pp,las,pas,ls,ps,rfl,B,W,n1,q⟩:=h;refine⟨_,(jd (jj (i:=1) Q3.nd rfl (.inl rfl) (jo (QB.mono (by decide)) hr (by rfl) T.yQ T.zo.kp T.yB .nil pass0 (ja (ji jC (pv 0) jb) jc)))
  (jd (jj (i:=2) Q3.nd rfl (.inl rfl) zF)
  (jd (jj (i:=3) Q3.nd rfl (.inl rfl) wA)
  (jd (Jp PassesOwn.never rfl (Ji (ji jC (pv 0) jb)) (ZP rfl (J1 (jv (i:=4) Q3.nd rfl (.inl rfl)) (J1 (jv (i:=5) Q3.nd rfl (.inl rfl)) zG)))
   (jg (zH (jI hr) (pv 2) (pv 4) (Wz hr.units (pv 3) (ja (jo (qh.mono (by decide)) hr (by rfl) T.Zc T.QL.kp T.zV .nil pass0 (ja (pv 5) (ja (pv 1) (ja (pv 2) jc)))) (ja (jq Ki (by rfl) T.Jr jW (ja (pv 3) jc)) jc))) rfl)))
  (jg (jH (j8 (ja (Jz (Y1 rfl) (by rfl) T.yG Zk (ja (pv 3) jc)) (ja (jw (jI hr) (pv 2) (ji jC (ji jp (ji jC (pv 0) jb) (kS y9 jb)) jb)) jc))))))))),?_⟩
 refine jE (σ':=[some _,none,none,none,none,none]) rfl ?_;have sz:(200:Nat)<sizeLine:=by decide
 have p61:=W.p61;have pa:=B.pa.1;have la:=B.la.1;have l8:=W.l8;have pl':(nmsOf ps).length=ps.length:=length_map _;exists ixTm (SqT.of B.t) rfl ?_;exists⟨pl,las,nmsOf ls,rfl,B.l,by rw[nmsOf,length_map];exact la,fun i a x ea ex=>?_,W.ln,by rw[nmsOf,length_map];omega,fun d H1 s1 hd ed=>?_⟩
 ·unfold nmsOf at ex;rw[List.getElem?_map]at ex;obtain⟨p,ep,rfl⟩:=Option.map_eq_some_iff.mp ex;exact⟨_,B.la.2 i a p ea ep⟩
 walk_at"g";walk_at"f d2 hd2 H2 s2 t2";exists wL ?_;walk_at"f d3 hd3 H3 s3 t3";have n3:=none_of s2 hd3;have s13:=s2.trans s3;have n32:d2≠d3:=je t2 hd3;exists ixTm (SqT.of (s13 _ _ (s1 _ _ B.t))) rfl ?_;refine⟨pp,rfl,⟨_,SqL.of (s13 _ _ (s1 _ _ B.p))⟩,?_⟩;refine QQ (xs:=pas.map V.ref) (fun i σ H'=>∃(o4 o5:Option V) (xs:List NE),σ=[some (.ref b),some (.ref d),some (.ref d2),some (.ref d3),o4,o5]/\Same H1 H'/\H' d2=some (.dK (numV ((nmsOf ps).take i) (madeM (nmsOf ls) (nmsOf ps) (ps.take i)).2))/\H' d3=some (DNx P w d3 xs)/\EnAt H' xs (madeM (nmsOf ls) (nmsOf ps) (ps.take i)).1)
  ⟨_,_,[],rfl,s13,s3 _ _ t2,t3,⟨rfl,fun i d h=>by simp[madeM]at h⟩⟩ ?_ ?_ ?_
 ·rintro i σ H' _ ⟨o4,o5,xs,rfl,sm,_⟩;exact SqL.of (sm _ _ (s1 _ _ B.p))
 ·rintro i x σ H' hx ⟨o4,o5,xs,rfl,sm,e2,e3,en⟩;obtain⟨a,p,rfl,hp,fb,hat,hf⟩:=B.pa.at_ref hx;have hi:=(List.getElem?_eq_some_iff.mp hp).1;have s0:=s1.trans sm;have M:=QU (nmsOf ls) (nmsOf ps) i (ps.take i) (by rw[length_take];omega);have mp:=wo (H:=H') W hp M.ln (sm _ _ ed) e2;have en1:=en.1;have lk:=M.lk;have hnm:(nmsOf ps)[i]?=some p.1:=by unfold nmsOf;rw[List.getElem?_map,hp];rfl
  have hk:(Sum.inr p.1:Key)∉(numV ((nmsOf ps).take i) (madeM (nmsOf ls) (nmsOf ps) (ps.take i)).2).map (·.1):=fun z=>by
   rw[yv (by rw[length_take,M.ln];omega)]at z;obtain⟨y,hy,e⟩:=mem_map.mp z;have e':y=p.1:=Sum.inr.inj e;subst e';obtain⟨j,hj,e⟩:=mem_iff_getElem.mp hy;rw[length_take]at hj;rw[getElem_take]at e;obtain⟨h2,e2⟩:=List.getElem?_eq_some_iff.mp hnm;exact absurd (e.trans e2.symm) (pairwise_iff_getElem.mp W.pn j i (by omega) h2 (by omega))
  have nl:(numV ((nmsOf ps).take i) (madeM (nmsOf ls) (nmsOf ps) (ps.take i)).2).length<sizeLine:=by
   rw[wx (by rw[length_take,M.ln];omega),length_take];omega
  have et:(nmsOf ps).take (i+1)=(nmsOf ps).take i++[p.1]:=take_snoc hnm;have em:madeM (nmsOf ls) (nmsOf ps) (ps.take (i+1))=stepM (nmsOf ls) (nmsOf ps) (madeM (nmsOf ls) (nmsOf ps) (ps.take i)) p:=by rw[take_snoc hp,jL]
  rw[et,em];have ll:((nmsOf ps).take i).length=(madeM (nmsOf ls) (nmsOf ps) (ps.take i)).2.length:=by rw[length_take,M.ln];omega
  generalize madeM (nmsOf ls) (nmsOf ps) (ps.take i)=st at *;refine ZQ (SqT.of (s0 _ _ hat)) ?_;exists WF ?_;exists⟨d3,xs,rfl,e3,?_⟩;exists⟨fb,d,d2,_,_,rfl,Yl.mp (FormAt.same s0 hf),mp,fun c H4 s4 gc=>?_⟩;exists⟨d3,xs,rfl,s4 _ _ e3,?_⟩;walk_at"g";have en4:=en.tups fun b xs h=>s4 b (.tup xs) h
  obtain⟨f1,f2⟩:=en4.found (d:=wiF (nmsOf ls) (nmsOf ps) st.2 p.2) M.nd;refine⟨xs,c,_,_,rfl,s4 _ _ e3,en4.nat,wq gc,by omega,fun p' hp'=>?_,fun hn=>?_⟩
  ·obtain⟨hm,hv⟩:=f1 p' hp';rw[hv];exists⟨d2,_,rfl,DPut.k (k:=Sum.inr p.1) (s4 _ _ e2) nl,?_⟩;unfold stepM;dsimp only;rw[if_pos hm];refine⟨_,_,xs,rfl,fun c u h=>(jk (je h hd2)).trans ((sm.trans s4) _ _ h),?_,(jk n32.symm).trans (s4 _ _ e3),en4.tups fun b xs h=>(jk (qk h (s4 _ _ e2) (fun z=>by cases z))).trans h⟩;rw[jf,QW hk,yw ll];rfl
  ·have hm:=f2 hn;exists⟨d2,_,rfl,DPut.k (k:=Sum.inr p.1) ((jk n32).trans (s4 _ _ e2)) nl,?_⟩;unfold stepM;dsimp only;rw[if_neg hm];have tk:∀b ys,H4 b=some (.tup ys)->upd (upd H4 d3 (DNx P w d3 (xs++[(kD (wiF (nmsOf ls) (nmsOf ps) st.2 p.2),c,.int (xs.length:Nat))]))) d2 (.dK (putK (numV ((nmsOf ps).take i) st.2) (Sum.inr p.1) (.int (xs.length:Nat)))) b=some (.tup ys):=fun b ys h=>(jk (qk h (s4 _ _ e2) (fun z=>by cases z))).trans ((jk (qk h (s4 _ _ e3) (fun z=>by cases z))).trans h)
   refine⟨_,_,xs++[(kD (wiF (nmsOf ls) (nmsOf ps) st.2 p.2),c,.int (xs.length:Nat))],rfl,fun c u h=>(jk (je h hd2)).trans ((jk (je h n3)).trans ((sm.trans s4) _ _ h)),?_,(jk n32.symm).trans jf,?_⟩
   ·rw[jf,QW hk,yw ll,en1];rfl
   ·rw[en1];rw[en1]at tk;exact(en4.tups tk).snoc (GAt.tups tk gc)
 rintro σ' H' ⟨o4,o5,xs,rfl,sm,e2,e3,en⟩;rw[length_map,pa,take_length]at e2 en;rw[<-pl',take_length]at e2;have s0:=s1.trans sm;exists⟨d3,xs,rfl,e3,?_⟩;walk_at"f l5 hl5 H5 s5 t5";walk_at"g";have s05:=s0.trans s5;obtain⟨a,ha,fb,hat,hf⟩:=B.pa.get (i:=ps.length-1) (x:=ps[ps.length-1]) (List.getElem?_eq_getElem (by omega));refine ixTm (SqT.of (s05 _ _ B.t)) rfl ?_;exists ixLm (SqL.of (s05 _ _ B.p)) (KR (n:=ps.length) n1 (by rw[length_map];exact pa) (by rw[List.getElem?_map,ha];rfl)) ?_;exists ixTm (SqT.of (s05 _ _ hat)) rfl ?_;have M:=QU (nmsOf ls) (nmsOf ps) ps.length ps rfl;have g:DGet H5 d2 (.str ps[ps.length-1].1) (some (vN ((madeM (nmsOf ls) (nmsOf ps) ps).2.getD (ps.length-1) 0))):=by
  have g:=DGet.k (k:=Sum.inr ps[ps.length-1].1) (s5 _ _ e2);rw[YB (j:=ps.length-1) (pl'.trans M.ln.symm) W.pn (by unfold nmsOf;rw[List.getElem?_map,List.getElem?_eq_getElem (by omega)];rfl)]at g;exact g
 refine⟨d2,_,rfl,g,?_⟩;exists⟨by show 2<=sizeLine;omega,?_⟩;walk_at"f 6 t";have s56:=s5.trans s6;exact q p6 l5 (xs.map fun q=>q.2.1) H6 (s0.trans s56) t6 (by rw[map_map];exact s6 _ _ t5) (DrAt.of (en.tups fun b xs h=>s56 _ _ h))
theorem YE(T:Txt K mg t):FnOk P w K mg base CX0 1 t.qX t.qY ["form"] (sp_namesG):=by
 refine T.Zt.ok YO (fun vs H Q E h=>?_) (fun cdv A outer s H vs Q E hr h=>?_)
 ·cases h;subst_vars;rfl
 obtain⟨a,g,rfl,ha,q⟩:=h;refine⟨_,(jd (Jt (jt xu (ji jC (pv 0) jb) (Wy (v:=.ref t.JQ) (by rfl) T.yI rfl) (by with_unfolding_all rfl))
   (jg (jH (ji jC (pv 0) jb)))
   jM)
  (jg (jH (wB (jt JR (ji jC (pv 0) jb) jr (nomark _)) (Jb wO (pv 0) (j9 jb) qD) (j8 jc))))),?_⟩
 refine jE (σ':=[some _]) rfl ?_;have sz:(200:Nat)<sizeLine:=by decide
 cases g with
 | smp r vs=>
  cases r with
  | false=>
   have h1:H a=some (.tup (.str "hold"::vs)):=ha;exists ixTm (SqT.of h1) (at0) ?_;exists⟨_,_,_,rfl,rfl,T.JO,?_⟩;exists iteE0 ?_;exists ixTm (SqT.of h1) (at0) ?_;exists iteE0 ?_;exists⟨Nat.zero_le _,?_⟩;walk_at"f b hb H1 s1 t1";exact q b H1 s1 t1
  | true=>
   have h1:H a=some (.tup (.str "ring"::vs)):=ha;exists ixTm (SqT.of h1) (at0) ?_;exists⟨_,_,_,rfl,rfl,T.JO,?_⟩;exists iteE0 ?_;exists ixTm (SqT.of h1) (at0) ?_;exists iteE0 ?_;exists⟨Nat.zero_le _,?_⟩;walk_at"f b hb H1 s1 t1";exact q b H1 s1 t1
 | rise x h n=>
  have h1:H a=some (.tup [.str "raise",x,h,n]):=ha;exists ixTm (SqT.of h1) rfl ?_;exists⟨_,_,_,rfl,rfl,T.JO,?_⟩;exists iteE0 ?_;exists ixTm (SqT.of h1) rfl ?_;exists iteE0 ?_;exists⟨Nat.zero_le _,?_⟩;walk_at"f b hb H1 s1 t1";exact q b H1 s1 t1
 | again k x=>
  have h1:H a=some (.tup [.str "again",k,x]):=ha;exists ixTm (SqT.of h1) rfl ?_;exists⟨_,_,_,rfl,rfl,T.JO,?_⟩;exists iteE0 ?_;exists ixTm (SqT.of h1) rfl ?_;exists iteE1 ?_;exists⟨a,_,rfl,SqT.of h1,(by show¬(HT.sIx 3 0 (some 2)=0/\HT.sIx 3 3 none=3);decide),?_⟩;walk_at"f b hb H1 s1 t1";exact q b H1 s1 t1
 | many s xs=>
  obtain⟨b,h1,h2⟩:=ha;cases s with
  | false=>
   have h1:H a=some (.tup [.str "row",.ref b]):=h1;exists ixTm (SqT.of h1) rfl ?_;exists⟨_,_,_,rfl,rfl,T.JO,?_⟩;exists iteE1 ?_;exists ixTm (SqT.of h1) rfl ?_;exact q b H (Same.refl _) h2
  | true=>
   have h1:H a=some (.tup [.str "side",.ref b]):=h1;exists ixTm (SqT.of h1) rfl ?_;exists⟨_,_,_,rfl,rfl,T.JO,?_⟩;exists iteE1 ?_;exists ixTm (SqT.of h1) rfl ?_;exact q b H (Same.refl _) h2
theorem kg(T:Txt K mg t)(zf:FnOk P w K mg base CX0 1 t.qX t.qY ["form"] (sp_namesG)):FnOk P w K mg base CX0 2 t.Qs t.Qt ["forms","drum"] (sp_come):=by
 refine T.Z9.ok QI (fun vs H Q E h=>?_) (fun cdv A outer s H vs Q E hr h=>?_)
 ·cases h;subst_vars;rfl
 obtain⟨f,fas,ks,dn,rfl,ef,dr,D,tl,k61,q⟩:=h;refine⟨_,(jd (jj (i:=2) QI.nd rfl (.inl rfl) (kR (Qv (pv 1) WV kW) rfl rfl (by simp) (by decide)))
  (jd (Jp PassesOwn.never rfl (Ky (by rfl) T.JL (ja (pv 1) (ja (kS y9 jb) (ja (kS y9 jb) jc)))) (jv (i:=3) QI.nd rfl (.inl rfl))
   (jg (Jt (xy (xw (jI hr) (pv 3) (pv 2)))
    (jg (Jp PassesOwn.never rfl (wD (jo (zf.mono (by decide)) hr (by rfl) T.kf T.Zt.kp T.YW .nil pass0 (ja (ji jp (pv 0) (pv 3)) jc))) (jv (i:=4) QI.nd rfl (.inl rfl))
     (jg (zH (jI hr) (pv 2) (pv 4) WV rfl))))
    jM)))
  (jg (jH (jq (Z0 rfl) (by rfl) T.zu QZ (ja (pv 2) jc)))))),?_⟩
 refine jE (σ':=[some _,some _,none,none,none]) rfl ?_;have sz:(200:Nat)<sizeLine:=by decide
 have fl:=dr.1;exists kX fun d hd=>?_
 exists⟨jf,[(iK dn,.bl true)],rfl,(by show 1<=15;decide),?_⟩;rw[WJ];have sm0:Same H (upd H d (.dK (mergeK [] [(iK dn,.bl true)]))):=y0 hd rfl;have e0:upd H d (.dK (mergeK [] [(iK dn,.bl true)])) d=some (.dK [(iK dn,.bl true)]):=jf;generalize upd H d (.dK (mergeK [] [(iK dn,.bl true)]))=H0 at sm0 e0|-;exists⟨(dn:Int),-1,rfl,⟨by omega,by omega,by omega,by omega⟩,?_⟩;have en:((dn:Int) - -1).toNat=dn+1:=by omega
 rw[en];refine wc (fun i σ H'=>∃(o3 o4:Option V) (kvs:List (Key×V)) (S:List Nat),σ=[some (.ref f),some (vN dn),some (.ref d),o3,o4]/\Same H H'/\H' d=some (.dK kvs)/\KySet kvs S/\CmOk ks dn i S)
  ⟨_,_,_,[dn],rfl,sm0,e0,⟨rfl,by simp⟩,⟨fun x hx=>by rw[mem_singleton.mp hx];exact .top,mem_singleton.mpr rfl,fun y hy hi=>absurd hi (by rw[mem_singleton.mp hy];omega)⟩⟩ ?_ ?_
 ·rintro i σ H' hi ⟨o3,o4,kvs,S,rfl,sm,ed,ky,cm⟩;obtain⟨y,hy⟩:∃y:Nat,(dn:Int)-(i:Int)=(y:Int):=⟨dn-i,by omega⟩
  have yi:y+i=dn:=by omega
  rw[hy];have yk:ks[y]?=some ks[y]:=List.getElem?_eq_getElem (by omega);obtain⟨fa,hfa,gfa⟩:=dr.get yk;walk_at"g";have g:=DGet.k (k:=iK y) ed;refine⟨d,_,rfl,g,?_⟩;rw[ky.mem];refine⟨_,rfl,?_⟩;refine iteD (fun d1=>?_) (fun d1=>?_)
  ·exists ixLm (SqL.of (sm _ _ ef)) (Jn (j:=y) (by rw[List.getElem?_map,hfa];rfl)) ?_;exists⟨fa,_,rfl,gfa.same sm,fun b H1 s1 eb=>?_⟩;rw[xM]at eb;have eg:ks.getD y (.hold 0)=ks[y]:=by rw[getD_eq_getElem?_getD,yk];rfl
   have cy:=cm.yes D d1 yi;rw[eg]at cy;have n8:=D.l8 _ (getElem_mem (by omega):ks[y]∈ks);refine⟨b,rfl,⟨_,SqT.of eb⟩,?_⟩;refine Wd (xs:=ks[y].ns.map vN) (fun j σ H2=>∃(o4:Option V) (kvs':List (Key×V)),σ=[some (.ref f),some (vN dn),some (.ref d),some (.int (y:Nat)),o4]/\(∀c u,c≠d->H1 c=some u->H2 c=some u)/\H2 d=some (.dK kvs')/\KySet kvs' (addS S (ks[y].ns.take j)))
    ⟨_,kvs,rfl,fun c u _ h=>h,s1 _ _ ed,ky⟩ ?_ ?_ ?_
   ·rintro j σ H2 _ ⟨o4,kvs',rfl,s2,e2,k2⟩;exact SqT.of (s2 _ _ (qk eb (s1 _ _ ed) (fun z=>by cases z)) eb)
   ·rintro j x σ H2 hx ⟨o4,kvs',rfl,s2,e2,k2⟩;obtain⟨z,hz1,rfl,hz2⟩:=ze hx;have hj:=(List.getElem?_eq_some_iff.mp hz1).1;have kl:=k2.len;have sl:(addS S (ks[y].ns.take j)).length<=dn+1:=yT k2.2 fun x hx=>by
     rcases q0.mp hx with h | h
     ·have:=(cm.rc x h).le D;omega
     ·have:=D.lt y _ yk x (mem_of_mem_take h);omega
    exists⟨d,_,rfl,DPut.k (k:=iK z) e2 (by omega),?_⟩;refine⟨_,_,rfl,fun c u n h=>(jk n).trans (s2 _ _ n h),jf,?_⟩;rw[take_snoc hz1,Kc];exact k2.put z _
   rintro σ H2 ⟨o4,kvs',rfl,s2,e2,k2⟩;rw[length_map,take_length]at k2;exact⟨_,_,kvs',_,rfl,fun c u h=>s2 _ _ (je h hd) (s1 _ _ (sm _ _ h)),e2,k2,cy⟩
  ·walk_at"g";exact⟨_,_,kvs,S,rfl,sm,ed,ky,cm.no d1 yi⟩
 rintro σ H' ⟨o3,o4,kvs,S,rfl,sm,ed,ky,cm⟩;have sl:S.length<=dn+1:=yT ky.2 fun x hx=>by have:=(cm.rc x hx).le D;omega
 exists⟨d,kvs,S.map (fun n:Nat=>(n:Int)),rfl,ed,by rw[ky.1,map_map];rfl,by rw[length_map];omega,fun l ms hl pm od=>?_⟩;obtain⟨ns,e1,e2,e3⟩:=YQ pm od ky.2;rw[e1];exact q l ns _ (sm.trans (y0 hl rfl)) (none_of sm hl) jf e2 fun x=>(e3 x).trans cm.all
theorem wy(T:Txt K mg t)(qh:FnOk P w K mg base CX0 1 t.qi t.qj ["form","limbs","parts"] (sp_formW))(YX:FnOk P w K mg base CX0 2 t.Zu t.Zy ["book"] (sp_made))(zJ:FnOk P w K mg base CX0 2 t.Qs t.Qt ["forms","drum"] (sp_come)):FnOk P w K mg base CX0 3 t.zq t.zA ["book"] (sp_drums):=by
 refine T.yC.ok qK (fun vs H Q E h=>?_) (fun cdv A outer s H vs Q E hr h=>?_)
 ·cases h;subst_vars;rfl
 obtain⟨b,pl,pp,las,pas,ls,ps,rfl,B,W,n1,q⟩:=h;refine⟨_,(jd (jj (i:=1) qK.nd rfl (.inl rfl) (jo (YX.mono (by decide)) hr (by rfl) T.xq T.KO.kp T.W0 .nil pass0 (ja (pv 0) jc)))
  (jd (jj (i:=2) qK.nd rfl (.inr rfl) (ji jC (pv 1) jb))
  (jd (jj (i:=3) qK.nd rfl (.inl rfl) (jo (zJ.mono (by decide)) hr (by rfl) T.Ku T.Z9.kp T.Kb .nil pass0 (ja (pv 2) (ja (ji jC (pv 1) jb) jc))))
  (jd (jj (i:=4) qK.nd rfl (.inr rfl) (kj rfl (by rfl) T.yG (by rfl) T.JL (ja (jq jG (by rfl) T.Jr jW (ja (ji jC (pv 0) jb) jc)) jc)))
  (jd (jj (i:=5) qK.nd rfl (.inr rfl) zF)
  (jd (Jp PassesOwn.never rfl (kT (by rfl) T.zY (ja (pv 3) jc)) (ZP rfl (J1 (jv (i:=6) qK.nd rfl (.inl rfl)) (J1 (jv (i:=7) qK.nd rfl (.inl rfl)) zG)))
   (jg (zH (jI hr) (pv 5) (pv 7) (pv 6) rfl)))
  (jg (jH (j8 (ja (Jz zw (by rfl) T.yG Zk (ja (ji jC (pv 0) jb) jc)) (ja (qR (ow:=["number"]) (ci:=[4,5,2]) rfl (CompScope.of (defScope Zr) ["book","found","forms","kept","limbs","anew","place","number"] rfl rfl (by decide +kernel)) (J2 (by decide)) (Ji (pv 3)) (fun _ _ _ _ _=>⟨(jv (i:=0) (qp ["book","found","forms","kept","limbs","anew","place","number"] rfl (by decide +kernel)) rfl (.inl rfl)),QV,(jo (qh.mono (by decide)) hr (by rfl) T.Zc T.QL.kp T.zV .nil pass0 (ja (ji (Qu (K:=K) rfl) (pv 3) (pv 0)) (ja (pv 1) (ja (pv 2) jc))))⟩)) jc))))))))))),?_⟩
 refine jE (σ':=[some _,none,none,none,none,none,none,none]) rfl ?_;have sz:(200:Nat)<sizeLine:=by decide
 have O:=kM W n1;have k61:=O.k61;have tp:=O.tp;have la:=B.la.1;have l8:=W.l8;exists⟨b,pl,pp,las,pas,ls,ps,rfl,B,W,n1,fun tt f fas H1 s1 et ef dr=>?_⟩;exists ixTm (SqT.of et) rfl ?_;exists ixTm (SqT.of et) rfl ?_;exists⟨f,fas,drsM ls ps,topM ls ps,rfl,ef,dr,O.dw,tp,k61,fun l2 ms H2 s2 hl2 e2 m1 m2=>?_⟩;have Kp:Kept ls ps ms:=⟨m1,m2⟩
 have m61:=Kp.len O;have nd:=WU m1;have s12:=s1.trans s2;exists xQ ?_;exists ixTm (SqT.of (s12 _ _ B.t)) rfl ?_;refine⟨_,_,rfl,.inl ⟨_,SqL.of (s12 _ _ B.l),rfl⟩,?_⟩;rw[length_map,la];exists⟨ls.length,rfl,by omega,?_⟩;walk_at"f 3 t";walk_at"g";walk_at"f d4 hd4 H4 s4 t4";exists⟨l2,_,rfl,SqL.of (s4 _ _ (s3 _ _ e2)),?_⟩;refine Yk (xs:=ms.map vN) (fun i σ H'=>∃o6 o7:Option V,σ=[some (.ref b),some (.ref tt),some (.ref f),some (.ref l2),some (.ref p3),some (.ref d4),o6,o7]/\Same H3 H'/\H' d4=some (.dK (numI (ms.take i)))) ⟨_,_,rfl,s4,t4⟩ ?_ ?_ ?_
 ·rintro i σ H' _ ⟨o6,o7,rfl,sm,ed⟩;exact SqL.of (sm _ _ (s3 _ _ e2))
 ·rintro i v σ H' T' H'' hx ⟨o6,o7,rfl,sm,ed⟩ sP tP;obtain⟨m,hm1,rfl,hm2⟩:=ze hx;have hi:=(List.getElem?_eq_some_iff.mp hm1).1;have tl:(ms.take i).length=i:=by rw[length_take];omega
  refine ZQ (SqT.of tP) ?_;exists⟨d4,_,rfl,DPut.k (k:=iK m) (sP _ _ ed) (by rw[wt,tl];omega),?_⟩;have hk:iK m∉(numI (ms.take i)).map (·.1):=fun z=>by
   rw[yt]at z;obtain⟨y,hy,e⟩:=mem_map.mp z;have e':=Y8 e;subst e';obtain⟨j,hj,e⟩:=mem_iff_getElem.mp hy;rw[tl]at hj;rw[getElem_take]at e;obtain⟨h2,e2⟩:=List.getElem?_eq_some_iff.mp hm1;exact absurd (e.trans e2.symm) (pairwise_iff_getElem.mp nd j i (by omega) h2 hj)
  refine⟨_,_,rfl,fun c u h=>(jk (je h hd4)).trans (sP _ _ (sm _ _ h)),?_⟩;rw[jf,QW hk,take_snoc hm1,Kv,tl];rfl
 rintro σ' H5 ⟨o6,o7,rfl,sm,ed⟩;rw[length_map,take_length]at ed;have s25:=s3.trans sm;have s05:=s12.trans s25;exists ixTm (SqT.of (s05 _ _ B.t)) rfl ?_;refine⟨pl,_,rfl,.inl (SqL.of (s05 _ _ B.l)),?_⟩;walk_at"f 6 t";have s26:=s25.trans s6;have s06:=s05.trans s6;exists⟨l2,rfl,⟨_,SqL.of (s26 _ _ e2)⟩,?_⟩;refine Jk (xs:=ms.map vN) (fun i ys H'=>∃das:List Addr,ys=das.map V.ref/\Same H6 H'/\DrAt H' das ((keptD (drsM ls ps) ms).take i)) ⟨[],rfl,Same.refl _,.nil⟩ ?_ ?_ ?_
 ·rintro i ys H' _ ⟨das,rfl,sm',dr'⟩;exact SqL.of (sm' _ _ (s26 _ _ e2))
 ·rintro i x ys H' hx ⟨das,rfl,sm',dr'⟩;obtain⟨m,hm1,rfl,hm2⟩:=ze hx;have hi:=(List.getElem?_eq_some_iff.mp hm1).1;have mt:=Kp.lt O hm2;have mk:(drsM ls ps)[m]?=some (drsM ls ps)[m]:=List.getElem?_eq_getElem (by omega);have eg:(drsM ls ps).getD m (.hold 0)=(drsM ls ps)[m]:=by rw[getD_eq_getElem?_getD,mk];rfl
  obtain⟨fa,hfa,gfa⟩:=dr.get mk;have sH:=s26.trans sm';have hin:=getElem_mem (by omega) (l:=drsM ls ps) (n:=m);have gm:=xA (H:=H') (l:=p3) (an:=d4) (n:=ls.length) (ms:=ms) (d:=(drsM ls ps)[m]) (sm' _ _ (s6 _ _ (sm _ _ t3))) (sm' _ _ (s6 _ _ ed)) nd (O.lm _ hin) (fun j hj=>Kp.sub hm2 (by rw[eg];exact hj)) (O.dw.l8 _ hin);refine qu (σ':=[none,some _,some _,some _]) rfl ?_;exists iteT ?_;exists ixLm (SqL.of (sH _ _ (s2 _ _ ef))) (Jn (j:=m) (by rw[List.getElem?_map,hfa];rfl)) ?_;exists⟨fa,p3,d4,_,_,rfl,(gfa.same s2).same sH,gm,fun c H7 s7 gc=>?_⟩;have dl:=dr'.1;rw[length_take]at dl;refine⟨by rw[length_map];omega,das++[c],by rw[map_append];rfl,sm'.trans s7,?_⟩;rw[take_snoc (x:=reD (fun n=>ms.idxOf n) (drsM ls ps)[m]) (by unfold keptD;rw[List.getElem?_map,hm1,<-eg];rfl)];exact All2.snoc (All2.mono dr' fun a d h=>h.same s7) gc
 rintro ys H' ⟨das,rfl,sm',dr'⟩;have kl:(keptD (drsM ls ps) ms).length=(ms.map vN).length:=by unfold keptD;rw[length_map,length_map]
 rw[<-kl,take_length]at dr';have dl:=dr'.1;rw[kl,length_map]at dl;refine⟨by rw[length_map];omega,?_⟩;walk_at"f 8 t";exists⟨by show 2<=sizeLine;omega,?_⟩;walk_at"f 9 t";have s68:=sm'.trans s8;have s89:=s8.trans s9;exact q p9 p6 p8 das ms H9 (s06.trans (sm'.trans s89)) t9 (s89 _ _ (sm' _ _ t6)) (s9 _ _ t8) (none_of s05 hp6) (none_of (s06.trans sm') hp8) (je (sm' _ _ t6) hp8) (All2.mono dr' fun a d h=>h.same s89) Kp
theorem Zg(T:Txt K mg t):FnOk P w K mg base CX0 1 t.j5 t.j6 ["_law_script","_law_k"] (Pr.sp_cell_at K):=by
 refine T.j4.ok Zi (fun vs H Q E h=>?_) (fun cdv A outer s H vs Q E hr h=>?_)
 ·cases h;subst_vars;rfl
 obtain⟨a,ns,k,rfl,hS,h63,h0,q⟩:=h;refine⟨_,(jd (Jt (jt kQ (pv 1) (jq jG (by rfl) T.Jr jW (ja (pv 0) jc)) (nomark _))
   (jg (jH (ji jp (pv 0) (pv 1))))
   jM)
  (jg (jH jb))),?_⟩
 refine jE (σ':=[some _,some _]) rfl ?_;exists⟨_,_,rfl,.inl ⟨_,hS,rfl⟩,?_⟩;exists iteD (fun c=>?_) (fun c=>?_)
 ·walk_at"g";exact⟨a,_,k,_,rfl,rfl,hS,Pr.jF h0 (by rw[length_map]at c;exact c),q⟩
 ·walk_at"g";have e:Pr.cell ns k=0:=by
   rw[length_map]at c;unfold Pr.cell;rw[getD_eq_getElem?_getD,List.getElem?_eq_none (by omega)];rfl
  rw[e]at q;exact q
theorem ZM(T:Txt K mg t):FnOk P w K mg base CX0 1 t.jQ t.jR ["_law_cell","_law_turn"] (qV):=by
 refine T.jX.ok Qd (fun vs H Q E h=>?_) (fun cdv A outer s H vs Q E hr h=>?_)
 ·obtain⟨c,m,rfl,m0,m1,q⟩:=h;rfl
 obtain⟨c,m,rfl,m0,m1,q⟩:=h;refine⟨_,(jd (Jt (jt kQ (pv 0) (jh qM jb jb) (nomark _))
   (jg (jH (pv 0)))
   jM)
  (jd (Jp PassesOwn.never rfl (JA (by rfl) T.JL (ja (jh JP jb (pv 1)) jc)) (jv (i:=2) Qd.nd rfl (.inl rfl))
   (jg (jj (i:=0) Qd.nd rfl (.inl rfl) (jh JF (pv 0) (jh qM jb jb)))))
  (jg (jH (jh jJ (jh qM jb jb) (pv 0)))))),?_⟩
 refine jE (σ':=[some _,some _,none]) rfl ?_;exists iteD (fun c1=>?_) (fun c1=>?_)
 ·walk_at"g";exact q _
 exists⟨_,rfl,by omega,by omega,?_⟩;refine Jy (fun i σ H'=>∃(x:Int) (o2:Option V),σ=[some (.int x),some (.int m),o2]/\H=H') ⟨_,_,rfl,rfl⟩ ?_ ?_
 ·rintro i σ H' hi ⟨x,o2,rfl,rfl⟩;walk_at"g";exact⟨_,_,rfl,rfl⟩
 ·rintro σ H' ⟨x,o2,rfl,rfl⟩;walk_at"g";exact q _
theorem ZL(T:Txt K mg t):FnOk P w K mg base CX0 1 t.jY t.jZ ["_law_cell","_law_many"] (Ws.Qx):=by
 refine T.Jv.ok jN (fun vs H Q E h=>?_) (fun cdv A outer s H vs Q E hr h=>?_)
 ·obtain⟨c,m,rfl,m0,m1,q⟩:=h;rfl
 obtain⟨c,m,rfl,m0,m1,q⟩:=h;refine⟨_,(jd (jj (i:=2) jN.nd rfl (.inl rfl) (Ja jc))
  (jd (Jt (jt xO (pv 0) (jh qM jb jb) (nomark _))
   (jd (jj (i:=3) jN.nd rfl (.inl rfl) (jh Qm (pv 0) (jh qM jb jb)))
   (jd (Jp PassesOwn.never rfl (JA (by rfl) T.JL (ja (pv 1) jc)) (jv (i:=4) jN.nd rfl (.inl rfl))
    (jd (jD (qO PySem.F.plainAttrs_list PySem.F.slot_list_append PySem.F.type_list_append jP (pv 2) (ja (jh jy (pv 3) jb) jc)))
    (jg (jj (i:=3) jN.nd rfl (.inl rfl) (jh JF (pv 3) jb)))))
   (jg (jH (pv 2)))))
   jM)
  (jd (jj (i:=3) jN.nd rfl (.inl rfl) (jh jJ (jh jy (pv 0) jb) jb))
  (jd (Jp PassesOwn.never rfl (JA (by rfl) T.JL (ja (pv 1) jc)) (jv (i:=4) jN.nd rfl (.inl rfl))
   (jd (jj (i:=3) jN.nd rfl (.inl rfl) (jh jJ (jh jJ (jh jJ (jh JP (pv 3) (pv 3)) (jh JP jb (pv 3))) (jh JP jb (pv 4))) jb))
   (jd (jj (i:=3) jN.nd rfl (.inl rfl) (jh jy (pv 3) jb))
   (jg (jD (qO PySem.F.plainAttrs_list PySem.F.slot_list_append PySem.F.type_list_append jP (pv 2) (ja (jh JF (pv 3) jb) jc)))))))
  (jg (jH (pv 2))))))),?_⟩
 refine jE (σ':=[some _,some _,none,none,none]) rfl ?_;have sz:(100:Nat)<sizeLine:=by decide
 exists⟨Nat.zero_le _,fun p hp=>?_⟩;exists iteD (fun c1=>?_) (fun c1=>?_)
 ·exists⟨_,rfl,by omega,by omega,?_⟩;refine Jy (fun i σ H'=>∃(x:Int) (o4:Option V) (ns:List Int),σ=[some (.int c),some (.int m),some (.ref p),some (.int x),o4]/\Same H H'/\H' p=some (.lst (ns.map V.int))/\ns.length=i/\∀n∈ns,0<=n/\n<33554432)
   ⟨_,_,[],rfl,Pr.jn hp _,jf,rfl,fun n h=>by cases h⟩ ?_ ?_
  ·rintro i σ H' hi ⟨x,o4,ns,rfl,sm,hl,hn,hb⟩;exists⟨.inl ⟨rfl,_,SqL.of hl⟩,?_⟩;exists⟨p,_,_,rfl,rfl,hl,by rw[length_map];omega,?_⟩;exists⟨_,_,ns++[x%33554432],rfl,Ws.Qw sm hp,by rw[jf,map_append];rfl,by simp[hn],fun n h=>?_⟩;rcases mem_append.mp h with z | z
   ·exact hb n z
   ·have e:n=x%33554432:=by simpa using z
    omega
  ·rintro σ H' ⟨x,o4,ns,rfl,sm,hl,hn,hb⟩;walk_at"g";exact q p ns _ sm hp hl (by omega) hb
 ·exists⟨_,rfl,by omega,by omega,?_⟩;refine Jy (fun i σ H'=>∃(x:Int) (o4:Option V) (ns:List Int),σ=[some (.int c),some (.int m),some (.ref p),some (.int x),o4]/\0<=x/\x<=2147531918/\Same H H'/\H' p=some (.lst (ns.map V.int))/\ns.length=i/\∀n∈ns,0<=n/\n<33554432)
   ⟨_,_,[],rfl,by omega,by omega,Pr.jn hp _,jf,rfl,fun n h=>by cases h⟩ ?_ ?_
  ·rintro i σ H' hi ⟨x,o4,ns,rfl,x0,x1,sm,hl,hn,hb⟩;walk_at"g";generalize x*x+48271*x+7*(0+(i:Int))+1=y;refine⟨.inl ⟨rfl,_,SqL.of hl⟩,?_⟩;exists⟨p,_,_,rfl,rfl,hl,by rw[length_map];omega,?_⟩;refine⟨_,_,ns++[y%2147483647/64],rfl,by omega,by omega,Ws.Qw sm hp,by rw[jf,map_append];rfl,by simp[hn],fun n h=>?_⟩;rcases mem_append.mp h with z | z
   ·exact hb n z
   ·have e:n=y%2147483647/64:=by simpa using z
    omega
  ·rintro σ H' ⟨x,o4,ns,rfl,x0,x1,sm,hl,hn,hb⟩;walk_at"g";exact q p ns _ sm hp hl (by omega) hb
theorem Z5(T:Txt K mg t)(jB:FnOk P w K mg base CX0 1 t.jY t.jZ ["_law_cell","_law_many"] (Ws.Qx)):FnOk P w K mg base CX0 2 t.JJ t.JM ["_law_cell","_law_many"] (sp_namesT):=by
 refine T.Qy.ok j3 (fun vs H Q E h=>?_) (fun cdv A outer s H vs Q E hr h=>?_)
 ·cases h;subst_vars;rfl
 obtain⟨c,n,rfl,n68,q⟩:=h;refine⟨_,(jd (jj (i:=2) j3.nd rfl (.inr rfl) jr)
  (jd (jj (i:=3) j3.nd rfl (.inl rfl) (jo (jB.mono (by decide)) hr (by rfl) T.J0 T.Jv.kp T.JS .nil pass0 (ja (pv 0) (ja jb jc))))
  (jd (jj (i:=4) j3.nd rfl (.inl rfl) (qO PySem.F.plainAttrs_str PySem.F.slot_str_join PySem.F.type_str_join Wl jr (ja (qR (ow:=["_law_one"]) (ci:=[2]) rfl (CompScope.of (defScope qT) ["_law_cell","_law_many","_law_letters","_law_some","_law_base","_law_at","_law_names_here","_law_k","_law_two"] rfl rfl (by decide +kernel)) (J2 (by decide)) (Ji (Jb Qg (pv 3) qD (j9 (jh jy (ji jp (pv 3) jb) jb)))) (fun _ _ _ _ _=>⟨(jv (i:=0) (qp ["_law_cell","_law_many","_law_letters","_law_some","_law_base","_law_at","_law_names_here","_law_k","_law_two"] rfl (by decide +kernel)) rfl (.inl rfl)),QV,(ji kb (pv 1) (jh jy (pv 0) jb))⟩)) jc)))
  (jd (jj (i:=5) j3.nd rfl (.inl rfl) (jh jy (ji jp (pv 3) jb) (jh jJ (jq jG (by rfl) T.Jr jW (ja (pv 4) jc)) jb)))
  (jd (jj (i:=6) j3.nd rfl (.inl rfl) (Ja jc))
  (jd (Jp PassesOwn.never rfl (JA (by rfl) T.JL (ja (pv 1) jc)) (jv (i:=7) j3.nd rfl (.inl rfl))
   (jd (jj (i:=8) j3.nd rfl (.inl rfl) (jh q5 (ji kb (pv 2) (jh JF (pv 7) jb)) (ji kb (pv 2) (jh jy (pv 7) jb))))
   (jg (Jt (jt JR (jh jy (ji jp (pv 3) jb) jb) jb (nomark _))
    (jg (jD (qO PySem.F.plainAttrs_list PySem.F.slot_list_append PySem.F.type_list_append jP (pv 6) (ja (jh q5 (jh q5 (Jb y3 (pv 4) qD (j9 (pv 5))) (pv 8)) (Jb y3 (pv 4) (j9 (pv 5)) qD)) jc))))
    (jg (Jt (jt JR (jh jy (ji jp (pv 3) jb) jb) jb (nomark _))
     (jg (jD (qO PySem.F.plainAttrs_list PySem.F.slot_list_append PySem.F.type_list_append jP (pv 6) (ja (jh q5 (pv 8) (Jb y3 (pv 4) qD (j9 (jh jy (pv 7) (jh jJ (jq jG (by rfl) T.Jr jW (ja (pv 4) jc)) jb))))) jc))))
     (jg (jD (qO PySem.F.plainAttrs_list PySem.F.slot_list_append PySem.F.type_list_append jP (pv 6) (ja (Jb y3 (pv 8) (j9 (Jz ye (by rfl) T.KY YZ (ja (Zo kQ (pv 7) jb (nomark _)) jc))) qD) jc))))))))))
  (jg (jH (pv 6))))))))),?_⟩
 refine jE (σ':=[some _,some _,none,none,none,none,none,none,none]) rfl ?_;have sz:(200:Nat)<sizeLine:=by decide
 exists⟨_,_,rfl,by omega,by omega,fun p ns H1 s1 hp hl hn hb=>?_⟩;have hb':∀k:Int,0<=k->k<9->0<=Pr.cell ns k:=fun k h0 h1=>(hb _ (mem_of_getElem? (Pr.Ym (ns:=ns) (k:=k) h0 (by omega)))).1
 exists⟨rfl,?_⟩;exists ixLm (SqL.of hl) (Pr.jF (by omega) (by omega)) ?_;exists⟨p,_,rfl,SqL.of hl,fun p3 hp3=>?_⟩;have b6:=hb' 6 (by omega) (by omega);have hcut:=Pr.K4 (ns:=ns) (m:=Pr.cell ns 6%7) (by omega) (by omega);rw[hcut];have s4:=Pr.jn hp3 (.lst ((ns.take (Pr.cell ns 6%7).toNat).map V.int));have e3:upd H1 p3 (.lst ((ns.take (Pr.cell ns 6%7).toNat).map V.int)) p3=some (.lst ((ns.take (Pr.cell ns 6%7).toNat).map V.int)):=jf;generalize upd H1 p3 (.lst ((ns.take (Pr.cell ns 6%7).toNat).map V.int))=H4 at s4 e3|-;have hml:(ns.take (Pr.cell ns 6%7).toNat).length<=6:=by rw[length_take];omega
 generalize ns.take (Pr.cell ns 6%7).toNat=ms at e3 hml|-;refine⟨p3,rfl,⟨_,SqL.of e3⟩,?_⟩;refine Jk (xs:=ms.map V.int) (fun i ys H'=>∃zs:List Str,ys=zs.map V.str/\zs.length=i/\(∀z∈zs,∃c,z=⟨#[c]⟩/\97<=c/\c<=122)/\H4=H') ⟨[],rfl,rfl,(fun z h=>nomatch h),rfl⟩ ?_ ?_ ?_
 ·rintro i ys H' _ ⟨zs,rfl,hz,h1,rfl⟩;exact SqL.of e3
 ·rintro i x ys H' hx ⟨zs,rfl,hz,h1,rfl⟩;obtain⟨n,hn',rfl⟩:=mem_map.mp (mem_of_getElem? hx);have hi:=(List.getElem?_eq_some_iff.mp hx).1;rw[length_map]at hi;refine qu (σ':=[none,some _]) rfl ?_;exists iteT ?_;exists⟨_,_,_,rfl,rfl,(by decide +kernel),kc (by omega) (by omega),?_⟩;refine⟨by rw[length_map];omega,zs++[⟨#[97+(n%26).toNat]⟩],by rw[map_append];rfl,by simp[hz],fun y hy=>?_,rfl⟩;rcases mem_append.mp hy with w | w
  ·exact h1 y w
  ·have e:y=⟨#[97+(n%26).toNat]⟩:=by simpa using w
   exact⟨_,e,by omega,by omega⟩
 rintro ys H' ⟨zs,rfl,hz,h1,rfl⟩;rw[length_map]at hz;refine⟨by rw[length_map];omega,fun p4 hp4=>?_⟩;have s5:=Pr.jn hp4 (.lst (zs.map V.str));have e4:upd H4 p4 (.lst (zs.map V.str)) p4=some (.lst (zs.map V.str)):=jf;generalize upd H4 p4 (.lst (zs.map V.str))=H5 at s5 e4|-;have h1':∀z∈zs,z.length=1:=fun z hz=>by obtain⟨c,rfl,_⟩:=h1 z hz;rfl
 have hone:(zs.map (·.length)).sum=zs.length:=Ws.YS zs h1';have ee:(Str.ofString "").length=0:=by decide +kernel
 have hsum:(zs.map (·.length)).sum+zs.length*(Str.ofString "").length<=16777216:=by rw[hone,ee];omega
 exists⟨_,p4,zs,rfl,rfl,SqL.of e4,hsum,?_⟩;obtain⟨hxl,hxc⟩:=Ke (zs:=zs) h1;generalize Txt.join (Str.ofString "") zs=x at hxl hxc|-;have s6:=s1.trans (s4.trans s5);have hl5:=s5 _ _ (s4 _ _ hl);have b7:=hb' 7 (by omega) (by omega);have b8:=hb' 8 (by omega) (by omega);exists ixLm (SqL.of hl5) (Pr.jF (by omega) (by omega)) ?_;exists⟨_,_,rfl,⟨by omega,rfl⟩,?_⟩;walk_at"g";have a0:=Int.emod_nonneg (Pr.cell ns 7) (show(x.length:Int)+1≠0 by omega);have a1:=Int.emod_lt_of_pos (Pr.cell ns 7) (show 0<(x.length:Int)+1 by omega);generalize Pr.cell ns 7%((x.length:Int)+1)=a at a0 a1|-;refine⟨Nat.zero_le _,fun p5 hp5=>?_⟩;exists⟨_,rfl,by omega,by omega,?_⟩;have np:p≠p5:=je hl5 hp5;refine Jy (fun i σ H'=>∃(o7 o8:Option V) (ws:List Str),σ=[some (.int c),some (.int (n:Nat)),some (.str "abcdefghijklmnopqrstuvwxyz"),some (.ref p),some (.str x),some (.int a),some (.ref p5),o7,o8]/\Same H5 H'/\H' p5=some (.lst (ws.map V.str))/\ws.length=i/\∀j,j<i->(ws[j]?).map (·.cps.toList)=some (nmL (Pr.cell ns 8%3) x.cps.toList a.toNat j))
  ⟨_,_,[],rfl,Pr.jn hp5 _,jf,rfl,fun j hj=>absurd hj (Nat.not_lt_zero j)⟩ ?_ ?_
 ·rintro i σ H' hi ⟨o7,o8,ws,rfl,sm,hl',hn',hw⟩;have hi':i<68:=by omega
  exists⟨_,_,_,rfl,rfl,(by decide +kernel),kc (by omega) (by omega),?_⟩;exists⟨_,_,_,rfl,rfl,(by decide +kernel),kc (by omega) (by omega),?_⟩;have one:∀c:Nat,(⟨#[c]⟩:Str).length=1:=fun _=>rfl
  refine⟨_,_,rfl,rfl,by rw[one,one];omega,?_⟩;obtain⟨two,etwo⟩:∃two,two=(⟨#[97+((0+(i:Int))/26).toNat]⟩:Str)++⟨#[97+((0+(i:Int))%26).toNat]⟩:=⟨_,rfl⟩
  rw[<-etwo];have ltwo:two.length=2:=by rw[etwo,Str.length_append];rfl
  have ctwo:two.cps.toList=[97+i/26,97+i%26]:=by
   rw[etwo,app_list];show[97+((0+(i:Int))/26).toNat]++[97+((0+(i:Int))%26).toNat]=_;rw[show((0+(i:Int))/26).toNat=i/26 by omega,show((0+(i:Int))%26).toNat=i%26 by omega];rfl
  clear etwo;exists ixLm (SqL.of (sm _ _ hl5)) (Pr.jF (by omega) (by omega)) ?_;walk_at"g";have fin:∀y:Str,y.cps.toList=nmL (Pr.cell ns 8%3) x.cps.toList a.toNat i->∃(o7' o8':Option V) (ws':List Str),[some (V.int c),some (.int (n:Nat)),some (.str "abcdefghijklmnopqrstuvwxyz"),some (.ref p),some (.str x),some (.int a),some (.ref p5),some (.int (0+(i:Int))),some (.str two)]=[some (V.int c),some (.int (n:Nat)),some (.str "abcdefghijklmnopqrstuvwxyz"),some (.ref p),some (.str x),some (.int a),some (.ref p5),o7',o8']/\Same H5 (upd H' p5 (.lst (ws.map V.str++[.str y])))/\upd H' p5 (.lst (ws.map V.str++[.str y])) p5=some (.lst (ws'.map V.str))/\ws'.length=i+1/\∀j,j<i+1->(ws'[j]?).map (·.cps.toList)=some (nmL (Pr.cell ns 8%3) x.cps.toList a.toNat j):=
   fun y hy=>⟨_,_,ws++[y],rfl,Ws.Qw sm hp5,by rw[jf,map_append];rfl,by simp[hn'],Wq hn' hw hy⟩
  refine iteD (fun c1=>?_) (fun c1=>?_)
  ·exists⟨.inl ⟨rfl,_,SqL.of hl'⟩,?_⟩;walk_at"g";have j1:=Txt.slice_le x none (some a);have j2:=Txt.slice_le x (some a) none;refine⟨by omega,?_⟩;exists⟨_,_,rfl,rfl,by omega,?_⟩;exists⟨by omega,?_⟩;refine⟨_,_,rfl,rfl,by rw[Str.length_append];omega,?_⟩;exists⟨p5,_,_,rfl,rfl,hl',by rw[length_map];omega,?_⟩;exists fin _ ?_;rw[app_list,app_list,cutTo (by omega) (by omega),cutFrom (by omega) (by omega),ctwo];unfold nmL;rw[if_pos c1]
  ·exists ixLm (SqL.of (sm _ _ hl5)) (Pr.jF (by omega) (by omega)) ?_;exists iteD (fun c2=>?_) (fun c2=>?_)
   ·exists⟨.inl ⟨rfl,_,SqL.of hl'⟩,?_⟩;exists⟨_,_,rfl,⟨by omega,rfl⟩,?_⟩;walk_at"g";have d0:=Int.emod_nonneg (0+(i:Int)) (show(x.length:Int)+1≠0 by omega);have d1:=Int.emod_lt_of_pos (0+(i:Int)) (show 0<(x.length:Int)+1 by omega);have j1:=Txt.slice_le x none (some ((0+(i:Int))%((x.length:Int)+1)));refine⟨by omega,?_⟩;refine⟨_,_,rfl,rfl,by omega,?_⟩;exists⟨p5,_,_,rfl,rfl,hl',by rw[length_map];omega,?_⟩;exists fin _ ?_;rw[app_list,cutTo (by omega) (by omega),ctwo];unfold nmL;rw[if_neg c1,if_pos c2,Ws.ZD,show((0+(i:Int))%((x.length:Int)+1)).toNat=i%(x.length+1) by rw[Int.zero_add];exact Int.toNat_natCast _]
   ·exists⟨.inl ⟨rfl,_,SqL.of hl'⟩,?_⟩;exists .inr ⟨_,rfl,?_⟩;walk_at"g";have j1:=Txt.slice_le two (some (if decide (0+(i:Int)<26)=true then 1 else 0)) none;refine⟨by omega,?_⟩;exists⟨p5,_,_,rfl,rfl,hl',by rw[length_map];omega,?_⟩;exists fin _ ?_;unfold nmL;rw[if_neg c1,if_neg c2];by_cases c3:i<26
    ·rw[if_pos (decide_eq_true (by omega)),if_pos c3,cutFrom (by omega) (by omega),ctwo];rfl
    ·rw[if_neg (by simp;omega),if_neg c3,cutFrom (by omega) (by omega),ctwo];rfl
 ·rintro σ H' ⟨o7,o8,ws,rfl,sm,hl',hn',hw⟩;walk_at"g";obtain⟨g1,g2⟩:=Yv (ws:=ws) n68 hxc (by rw[Ws.ZD];omega) hn' hw;exact q p5 ws _ (s6.trans sm) (none_of s6 hp5) hl' (by omega) g1 g2
theorem ZI(T:Txt K mg t):FnOk P w K mg base CX0 1 t.Je t.Jf ["_law_cell","_law_mixed","_law_least"] (Q4):=by
 refine T.JT.ok Qc (fun vs H Q E h=>?_) (fun cdv A outer s H vs Q E hr h=>?_)
 ·obtain⟨c,m,l,rfl,m0,m1,l0,l1,q⟩:=h;rfl
 obtain⟨c,m,l,rfl,m0,m1,l0,l1,q⟩:=h;refine⟨_,(jd (jj (i:=3) Qc.nd rfl (.inl rfl) (jh jy (pv 1) jb))
  (jd (Jt (jt JR (pv 3) jb (nomark _))
   (jg (jH (jh jJ (pv 2) (jh jy (jh JF (pv 1) jb) jb))))
   jM)
  (jd (Jt (jt JR (pv 3) jb (nomark _))
   (jg (jH (jh jJ (pv 2) (jh jy (pv 0) (jh Qm (jh jJ (jh qM jb jb) jb) (pv 2))))))
   jM)
  (jd (Jt (jt JR (pv 3) jb (nomark _))
   (jg (jH (jh jJ (pv 2) (jh jy (jh JP (jh JP (pv 1) (pv 1)) jb) (jh Qm (jh jJ (jh qM jb jb) jb) (pv 2))))))
   jM)
  (jd (jj (i:=4) Qc.nd rfl (.inl rfl) (jh Qm (jh jJ (Jz Kh (by rfl) T.KY YZ (ja (jh q5 jr (jh Ww jr (jh jy (jh JF (pv 1) jb) jb))) jc)) (jh jy (jh JF (pv 1) jb) jb)) jb))
  (jg (jH (jq (Kj rfl) (by rfl) T.WN K0 (ja (pv 2) (ja (jq (yg rfl) (by rfl) T.WO K1 (ja (jh qM jb jb) (ja (pv 4) jc))) jc)))))))))),?_⟩
 refine jE (σ':=[some _,some _,some _,none,none]) rfl ?_;have a0:=Int.emod_nonneg c (show(10^18+1-l:Int)≠0 by omega);have a1:=Int.emod_lt_of_pos c (show(0:Int)<10^18+1-l by omega);have b0:=Int.emod_nonneg (m*m*48271) (show(10^18+1-l:Int)≠0 by omega);have b1:=Int.emod_lt_of_pos (m*m*48271) (show(0:Int)<10^18+1-l by omega);have mm:=xr (x:=m) (y:=m) (A:=33554432) (B:=33554432) (by omega) (by omega) (by omega) (by omega);exists iteD (fun c1=>?_) (fun c1=>?_)
 ·exists q _ ?_ ?_<;>omega
 exists iteD (fun c2=>?_) (fun c2=>?_)
 ·exists q _ ?_ ?_<;>omega
 exists iteD (fun c3=>?_) (fun c3=>?_)
 ·exists q _ ?_ ?_<;>omega
 exists⟨_,_,rfl,rfl,mulOk0 (by omega) (by omega),?_⟩;exists⟨_,_,rfl,rfl,wP (by omega) (by omega),?_⟩;exists⟨_,_,rfl,tens (by omega) (by omega),KL (by omega) (by omega),?_⟩;walk_at"g";generalize(10:Int)^(m/4%19).toNat+m/76%3-1=y;refine⟨_,_,rfl,?_⟩;exists⟨_,_,rfl,q _ ?_ ?_⟩<;>repeat' split<;>omega
theorem YD(T:Txt K mg t):FnOk P w K mg base CX0 1 t.qc t.qd ["_law_room_here","_law_form","_law_hands","_law_long"] (sp_add):=by
 refine T.JC.ok YM (fun vs H Q E h=>?_) (fun cdv A outer s H vs Q E hr h=>?_)
 ·cases h;subst_vars;rfl
 obtain⟨z,m,fa,ha,f,ks,g,rfl,R,hf,hh,l1,l2,l3,l4,q⟩:=h;refine⟨_,(jd (jD (qO PySem.F.plainAttrs_list PySem.F.slot_list_append PySem.F.type_list_append jP (jw (jI hr) (pv 0) jr) (ja (j8 (ja (ji jp (jw (jI hr) (pv 0) jr) (jq jG (by rfl) T.Jr jW (ja (jw (jI hr) (pv 0) jr) jc))) (ja (pv 1) jc))) jc)))
  (jd (jD (qO PySem.F.plainAttrs_list PySem.F.slot_list_append PySem.F.type_list_append jP (jw (jI hr) (pv 0) jr) (ja (pv 2) jc)))
  (jg (jD (qO PySem.F.plainAttrs_list PySem.F.slot_list_append PySem.F.type_list_append jP (jw (jI hr) (pv 0) jr) (ja (pv 3) jc)))))),?_⟩
 refine jE (σ':=[some _,some _,some _,some _]) rfl ?_;have sz:(200:Nat)<sizeLine:=by decide
 obtain⟨qs,eq,aq⟩:=R.p;obtain⟨hs,eh,ah⟩:=R.h;have hq:=aq.1;have hhl:=ah.1;exists⟨_,_,rfl,jV R,?_⟩;refine⟨.inl ⟨rfl,_,SqL.of eq⟩,?_⟩;exists⟨_,_,rfl,yo R,?_⟩;exists⟨_,_,rfl,jV R,?_⟩;exists⟨_,_,rfl,.inl ⟨_,SqL.of eq,rfl⟩,?_⟩;rw[length_map,hq];refine ixLm (SqL.of R.n) (kz (by omega)) ?_;exists⟨(by show 2<=sizeLine;omega),fun p hp=>?_⟩;have s1:=Pr.jn hp (.tup [.str (m.names.getD m.parts.length ⟨#[]⟩),.ref fa]);have e1:upd H p (.tup [.str (m.names.getD m.parts.length ⟨#[]⟩),.ref fa]) p=some (.tup [.str (m.names.getD m.parts.length ⟨#[]⟩),.ref fa]):=jf;generalize upd H p (.tup [.str (m.names.getD m.parts.length ⟨#[]⟩),.ref fa])=H1 at s1 e1|-;have R1:=R.keeps s1;have hf1:FormAt H1 fa f:=FormAt.kp R (Rm.Kp.of s1) hf;have hh1:HandAt z H1 ha ks:=⟨s1 _ _ hh.1,hh.2⟩
 have aq1:All2 (PartAt H1) qs m.parts:=aq.mono fun a x h=>PartAt.kp R (Rm.Kp.of s1) h
 have ah1:All2 (HandAt z H1) hs m.hands:=ah.mono fun a x h=>⟨s1 _ _ h.1,h.2⟩
 have eq1:=s1 _ _ eq;have eh1:=s1 _ _ eh;have od:=YC R;exists⟨_,_,_,rfl,rfl,eq1,by rw[length_map];omega,?_⟩;walk_at"g";have d2:upd H1 z.pp (.lst (qs.map V.ref++[.ref p])) z.r=_:=(jk od.1).trans R1.d;have eh2:upd H1 z.pp (.lst (qs.map V.ref++[.ref p])) z.ph=_:=(jk R.ph.symm).trans eh1;have eg2:upd H1 z.pp (.lst (qs.map V.ref++[.ref p])) z.pg=_:=(jk R.pg.symm).trans R1.g;have ep2:upd H1 z.pp (.lst (qs.map V.ref++[.ref p])) z.pp=_:=jf;have k2:Rm.Kp z H1 (upd H1 z.pp (.lst (qs.map V.ref++[.ref p]))):=fun b u o h=>(jk o.1).trans h
 generalize upd H1 z.pp (.lst (qs.map V.ref++[.ref p]))=H2 at d2 eh2 eg2 ep2 k2|-;refine⟨_,_,rfl,DGet.k (k:=Sum.inr "hands") d2,?_⟩;refine⟨.inl ⟨rfl,_,SqL.of eh2⟩,?_⟩;exists⟨_,_,_,rfl,rfl,eh2,by rw[length_map];omega,?_⟩;walk_at"g";have d3:upd H2 z.ph (.lst (hs.map V.ref++[.ref ha])) z.r=_:=(jk od.2.1).trans d2;have eg3:upd H2 z.ph (.lst (hs.map V.ref++[.ref ha])) z.pg=_:=(jk R.hg.symm).trans eg2;have ep3:upd H2 z.ph (.lst (hs.map V.ref++[.ref ha])) z.pp=_:=(jk R.ph).trans ep2;have eh3:upd H2 z.ph (.lst (hs.map V.ref++[.ref ha])) z.ph=_:=jf;have k3:Rm.Kp z H1 (upd H2 z.ph (.lst (hs.map V.ref++[.ref ha]))):=fun b u o h=>(jk o.2.1).trans (k2 b u o h)
 generalize upd H2 z.ph (.lst (hs.map V.ref++[.ref ha]))=H3 at d3 eg3 ep3 eh3 k3|-;refine⟨_,_,rfl,DGet.k (k:=Sum.inr "long") d3,?_⟩;refine⟨.inl ⟨rfl,_,SqL.of eg3⟩,?_⟩;exists⟨_,_,_,rfl,rfl,eg3,by rw[length_map];omega,?_⟩;have eg4:upd H3 z.pg (.lst (m.longs.map V.int++[.int g])) z.pg=_:=jf;have ep4:upd H3 z.pg (.lst (m.longs.map V.int++[.int g])) z.pp=_:=(jk R.pg).trans ep3;have eh4:upd H3 z.pg (.lst (m.longs.map V.int++[.int g])) z.ph=_:=(jk R.hg).trans eh3;have k4:Rm.Kp z H1 (upd H3 z.pg (.lst (m.longs.map V.int++[.int g]))):=fun b u o h=>(jk o.2.2).trans (k3 b u o h)
 exact q _ (fun b u o h=>k4 b u o (s1 b u h)) (KP R1 k4 eq1 aq1 eh1 ah1 ⟨fa,e1,hf1⟩ hh1 ep4 eh4 eg4) fun hs' e=>by rw[eh]at e;injection e with e;injection e with e;rw[map_append,<-e];exact eh4
theorem ZK(T:Txt K mg t)(ju:FnOk P w K mg base CX0 1 t.jQ t.jR ["_law_cell","_law_turn"] (qV))(jK:FnOk P w K mg base CX0 1 t.Je t.Jf ["_law_cell","_law_mixed","_law_least"] (Q4))(jO:FnOk P w K mg base CX0 1 t.qc t.qd ["_law_room_here","_law_form","_law_hands","_law_long"] (sp_add)):FnOk P w K mg base CX0 2 t.Jw t.Jx ["_law_room_here","_law_cell","_law_some"] (sp_simple):=by
 refine T.qx.ok qv (fun vs H Q E h=>?_) (fun cdv A outer s H vs Q E hr h=>?_)
 ·cases h;subst_vars;rfl
 obtain⟨z,m,c,p,ns,rfl,R,G,ml,hl,op,hn,hb,q⟩:=h;refine⟨_,(jd (jj (i:=3) qv.nd rfl (.inl rfl) (jo (jK.mono (by decide)) hr (by rfl) T.qB T.JT.kp T.qw .nil pass0 (ja (jo (ju.mono (by decide)) hr (by rfl) T.Jg T.jX.kp T.Jc .nil pass0 (ja (pv 1) (ja jb jc))) (ja (ji jp (pv 2) jb) (ja jb jc)))))
  (jg (Jt (jt JR (jh jy (ji jp (pv 2) jb) jb) jb (nomark _))
   (jg (jD (jo (jO.mono (by decide)) hr (by rfl) T.qg T.JC.kp T.qa .nil pass0 (ja (pv 0) (ja (j8 (ja jr (ja (pv 3) jc))) (ja (Ja jc) (ja (pv 3) jc)))))))
   (jg (Jt (jt JR (jh jy (ji jp (pv 2) jb) jb) jb (nomark _))
    (jg (jD (jo (jO.mono (by decide)) hr (by rfl) T.qg T.JC.kp T.qa .nil pass0 (ja (pv 0) (ja (j8 (ja jr (ja (ji jp (jw (jI hr) (pv 0) jr) (jh jy (ji jp (pv 2) jb) jb)) (ja (pv 3) jc)))) (ja (Ja jc) (ja (pv 3) jc)))))))
    (jd (jj (i:=4) qv.nd rfl (.inl rfl) (jh jy (ji jp (pv 2) jb) (jq jG (by rfl) T.Jr jW (ja (jw (jI hr) (pv 0) jr) jc))))
    (jd (jj (i:=5) qv.nd rfl (.inl rfl) (jo (jK.mono (by decide)) hr (by rfl) T.qB T.JT.kp T.qw .nil pass0 (ja (jo (ju.mono (by decide)) hr (by rfl) T.Jg T.jX.kp T.Jc .nil pass0 (ja (jh JF (pv 1) jb) (ja jb jc))) (ja (ji jp (pv 2) jb) (ja jb jc)))))
    (jg (jD (jo (jO.mono (by decide)) hr (by rfl) T.qg T.JC.kp T.qa .nil pass0 (ja (pv 0) (ja (j8 (ja jr (ja (ji jC (ji jp (jw (jI hr) (pv 0) jr) (pv 4)) jb) (ja (pv 5) (ja (pv 3) jc))))) (ja (Ja (ja (pv 4) jc)) (ja (pv 3) jc)))))))))))))),?_⟩
 refine jE (σ':=[some _,some _,some _,none,none,none]) rfl ?_;have sz:(200:Nat)<sizeLine:=by decide
 have nl:=G.nl;have e1:=G.hl;have e2:=G.gl;have c0:=hb.cell (k:=0) (by omega) (by omega);have c1:=hb.cell (k:=1) (by omega) (by omega);have c2:=hb.cell (k:=2) (by omega) (by omega);have c3:=hb.cell (k:=3) (by omega) (by omega);exists⟨_,_,rfl,by omega,by omega,fun wn=>?_⟩;exists ixLm (SqL.of hl) (Pr.jF (by omega) (by omega)) ?_;exists⟨_,_,_,rfl,by omega,by omega,by omega,by omega,fun b b1 b2=>?_⟩;exists ixLm (SqL.of hl) (Pr.jF (by omega) (by omega)) ?_;exists iteD (fun d1=>?_) (fun d1=>?_)
 ·exists⟨(by show 2<=sizeLine;omega),fun p1 hp1=>?_⟩;have s1:=Pr.jn hp1 (.tup [.str "hold",.int b]);have t1:upd H p1 (.tup [.str "hold",.int b]) p1=some (.tup [.str "hold",.int b]):=jf;generalize upd H p1 (.tup [.str "hold",.int b])=H1 at s1 t1|-;have R1:=R.keeps s1;exists⟨Nat.zero_le _,fun p2 hp2=>?_⟩;have s2:=Pr.jn hp2 (.lst []);have t2:upd H1 p2 (.lst []) p2=some (.lst []):=jf;generalize upd H1 p2 (.lst [])=H2 at s2 t2|-;have R2:=R1.keeps s2;exists⟨z,m,p1,p2,.hold b,[],b,rfl,R2,s2 _ _ t1,⟨t2,qt R1 hp2⟩,by omega,by omega,by omega,nl,fun H' k R' _=>?_⟩;exact q _ _ ((Rm.Kp.of (s1.trans s2)).trans k) R' (G.add ⟨⟨b1,b2,rfl,rfl⟩,(fun z h=>nomatch h),.nil,by omega,by omega⟩) qP
 exists ixLm (SqL.of hl) (Pr.jF (by omega) (by omega)) ?_;exists iteD (fun d2=>?_) (fun d2=>?_)
 ·exists⟨_,_,rfl,yo R,?_⟩;exists ixLm (SqL.of hl) (Pr.jF (by omega) (by omega)) ?_;exists ixLm (SqL.of R.n) (Yd (by omega) (by omega)) ?_;have hx:=getD_in (ws:=m.names) (n:=(Pr.cell ns 1%60).toNat) (by omega);generalize m.names.getD (Pr.cell ns 1%60).toNat ⟨#[]⟩=x at hx|-;exists⟨(by show 3<=sizeLine;omega),fun p1 hp1=>?_⟩;have s1:=Pr.jn hp1 (.tup [.str "ring",.str x,.int b]);have t1:upd H p1 (.tup [.str "ring",.str x,.int b]) p1=some (.tup [.str "ring",.str x,.int b]):=jf;generalize upd H p1 (.tup [.str "ring",.str x,.int b])=H1 at s1 t1|-;have R1:=R.keeps s1;exists⟨Nat.zero_le _,fun p2 hp2=>?_⟩;have s2:=Pr.jn hp2 (.lst []);have t2:upd H1 p2 (.lst []) p2=some (.lst []):=jf;generalize upd H1 p2 (.lst [])=H2 at s2 t2|-;have R2:=R1.keeps s2;exists⟨z,m,p1,p2,.ring x b,[],b,rfl,R2,s2 _ _ t1,⟨t2,qt R1 hp2⟩,by omega,by omega,by omega,nl,fun H' k R' _=>?_⟩;exact q _ _ ((Rm.Kp.of (s1.trans s2)).trans k) R' (G.add ⟨⟨hx,b1,b2,rfl,rfl⟩,(fun z h=>nomatch h),.nil,by omega,by omega⟩) qP
 exists ixLm (SqL.of hl) (Pr.jF (by omega) (by omega)) ?_;walk_at"g";obtain⟨ls,el,al⟩:=R.l;have l1:=G.l1;have l8:=G.l8;have la:=al.1;refine⟨_,_,rfl,Q1 R,?_⟩;exists⟨_,_,rfl,.inl ⟨_,SqL.of el,rfl⟩,?_⟩;rw[length_map,la];walk_at"g";have i0:=Int.emod_nonneg (Pr.cell ns 1) (show(m.limbs.length:Int)≠0 by omega);have i1:=Int.emod_lt_of_pos (Pr.cell ns 1) (show 0<(m.limbs.length:Int) by omega);generalize Pr.cell ns 1%(m.limbs.length:Int)=j at i0 i1|-;refine⟨_,_,rfl,by omega,by omega,fun wn2=>?_⟩;exists ixLm (SqL.of hl) (Pr.jF (by omega) (by omega)) ?_;exists⟨_,_,_,rfl,by omega,by omega,by omega,by omega,fun h h1 h2=>?_⟩;exists⟨_,_,rfl,Q1 R,?_⟩;walk_at"g";obtain⟨x,v,hx⟩:∃x v,m.limbs[j.toNat]?=some (x,v):=⟨_,_,List.getElem?_eq_getElem (by omega)⟩
 obtain⟨a,ha,hat⟩:=al.get hx;refine ixLm (SqL.of el) (QC i0 ha) ?_;exists ixTm (SqT.of hat) rfl ?_;exists⟨(by show 4<=sizeLine;omega),fun p1 hp1=>?_⟩;have s1:=Pr.jn hp1 (.tup [.str "raise",.str x,.int h,.int b]);have t1:upd H p1 (.tup [.str "raise",.str x,.int h,.int b]) p1=some (.tup [.str "raise",.str x,.int h,.int b]):=jf;generalize upd H p1 (.tup [.str "raise",.str x,.int h,.int b])=H1 at s1 t1|-;have R1:=R.keeps s1;exists⟨(by show 1<=sizeLine;omega),fun p2 hp2=>?_⟩;have s2:=Pr.jn hp2 (.lst [.int j]);have t2:upd H1 p2 (.lst [.int j]) p2=some (.lst [.int j]):=jf;generalize upd H1 p2 (.lst [.int j])=H2 at s2 t2|-;have R2:=R1.keeps s2;exists⟨z,m,p1,p2,.rise x h b,[j],b,rfl,R2,s2 _ _ t1,⟨t2,qt R1 hp2⟩,by omega,by omega,by omega,nl,fun H' k R' _=>?_⟩;refine q _ _ ((Rm.Kp.of (s1.trans s2)).trans k) R' (G.add ⟨⟨⟨j.toNat,v,hx,by rw[Int.toNat_of_nonneg i0]⟩,h1,h2,b1,b2,rfl⟩,fun k hk=>?_,List.pairwise_singleton _ _,by omega,by omega⟩) qP;have e:k=j:=by simpa using hk
 omega
theorem Z6(T:Txt K mg t):FnOk P w K mg base CX0 1 t.JK t.JN ["_law_room_here","_law_number_here"] (sp_there):=by
 refine T.Qz.ok zd (fun vs H Q E h=>?_) (fun cdv A outer s H vs Q E hr h=>?_)
 ·cases h;subst_vars;rfl
 obtain⟨z,m,n,rfl,R,hm,n0,q⟩:=h;refine⟨_,(jd (jj (i:=2) zd.nd rfl (.inl rfl) (jq jG (by rfl) T.Jr jW (ja (jw (jI hr) (pv 0) jr) jc)))
  (jd (Jt (jt JR (jh jy (pv 1) jb) jb (nomark _))
   (jg (jH (jh Qm (jh Qm (pv 2) jb) (jh jy (jh JF (pv 1) jb) (jq (yg rfl) (by rfl) T.WO K1 (ja (pv 2) (ja jb jc)))))))
   jM)
  (jg (jH (jh jy (jh JF (pv 1) jb) (pv 2)))))),?_⟩
 refine jE (σ':=[some _,some _,none]) rfl ?_;obtain⟨qs,eq,aq⟩:=R.p;have hq:=aq.1;exists⟨_,_,rfl,jV R,?_⟩;exists⟨_,_,rfl,.inl ⟨_,SqL.of eq,rfl⟩,?_⟩;rw[length_map,hq];generalize m.parts.length=k at hm q|-;exists iteD (fun c1=>?_) (fun c1=>?_)
 ·exists⟨_,_,rfl,?_⟩;have e:0<(if(6:Int)<(k:Int)then(6:Int)else k)/\(if(6:Int)<(k:Int)then(6:Int)else k)<=k:=by split<;>omega
  generalize(if(6:Int)<(k:Int)then(6:Int)else k)=w at e|-;walk_at"g";have a0:=Int.emod_nonneg (n/2) (show w≠0 by omega);have a1:=Int.emod_lt_of_pos (n/2) (show 0<w by omega);exact kJ q (by omega) (by omega)
 ·walk_at"g";have a0:=Int.emod_nonneg (n/2) (show(k:Int)≠0 by omega);have a1:=Int.emod_lt_of_pos (n/2) (show 0<(k:Int) by omega);exact kJ q (by omega) (by omega)
theorem Z4(T:Txt K mg t)(JI:FnOk P w K mg base CX0 1 t.JK t.JN ["_law_room_here","_law_number_here"] (sp_there)):FnOk P w K mg base CX0 2 t.qm t.qq ["_law_room_here","_law_some"] (sp_apart):=by
 refine T.zn.ok jS (fun vs H Q E h=>?_) (fun cdv A outer s H vs Q E hr h=>?_)
 ·cases h;subst_vars;rfl
 obtain⟨z,m,p,ns,rfl,R,G,hm,ml,hl,hn,hb,q⟩:=h;refine⟨_,(jd (jj (i:=2) jS.nd rfl (.inl rfl) (Ja jc))
  (jd (jj (i:=3) jS.nd rfl (.inr rfl) (Ja jc))
  (jd (Jp PassesOwn.never rfl (JA (by rfl) T.JL (ja (jh jJ jb (jh jy (ji jp (pv 1) jb) jb)) jc)) (jv (i:=4) jS.nd rfl (.inl rfl))
   (jd (jj (i:=5) jS.nd rfl (.inl rfl) (jo (JI.mono (by decide)) hr (by rfl) T.zE T.Qz.kp T.zm .nil pass0 (ja (pv 0) (ja (ji jp (pv 1) (jh jJ jb (pv 4))) jc))))
   (jg (Jp PassesOwn.never rfl (JA (by rfl) T.JL (ja (jq jG (by rfl) T.Jr jW (ja (jw (jI hr) (pv 0) jr) jc)) jc)) (jv (i:=6) jS.nd rfl (.inl rfl))
    (jd (jj (i:=7) jS.nd rfl (.inl rfl) (jh jy (jh jJ (pv 5) (pv 6)) (jq jG (by rfl) T.Jr jW (ja (jw (jI hr) (pv 0) jr) jc))))
    (jd (jj (i:=8) jS.nd rfl (.inl rfl) (ji jp (jw (jI hr) (pv 0) jr) (pv 7)))
    (jg (Jt (PW.pt (yZ (jt (xv hr.units) (pv 8) (Ja jc) (nomark _)) (Zq (jt (yX hr.units) (qR (ow:=["_law_hand"]) (ci:=[3]) rfl (CompScope.of (defScope qS) ["_law_room_here","_law_some","_law_there_here","_law_hands","_law_k","_law_first","_law_step","_law_one","_law_here"] rfl rfl (by decide +kernel)) (J2 (by decide)) (Ji (pv 8)) (fun _ _ _ _ _=>⟨(jv (i:=0) (qp ["_law_room_here","_law_some","_law_there_here","_law_hands","_law_k","_law_first","_law_step","_law_one","_law_here"] rfl (by decide +kernel)) rfl (.inl rfl)),(ZO (jt (ki (K:=K) rfl) (pv 0) (pv 1) (by with_unfolding_all rfl))),(pv 0)⟩)) (Ja jc) (nomark _)))))
     (jd (jD (qO PySem.F.plainAttrs_list PySem.F.slot_list_append PySem.F.type_list_append jP (pv 2) (ja (pv 7) jc)))
     (jd (jj (i:=3) jS.nd rfl (.inr rfl) (jh kh (pv 3) (pv 8)))
     (jg wF)))
     jM))))))))
  (jg (jH (pv 2)))))),?_⟩
 refine jE (σ':=[some _,some _,none,none,none,none,none,none,none]) rfl ?_;have sz:(200:Nat)<sizeLine:=by decide
 have c1:=hb.cell (k:=1) (by omega) (by omega);obtain⟨ha,eha,aha⟩:=R.h;exists⟨Nat.zero_le _,fun p0 hp0=>?_⟩;have s0:=Pr.jn hp0 (.lst []);have t0:upd H p0 (.lst []) p0=some (.lst []):=jf;generalize upd H p0 (.lst [])=H0 at s0 t0|-;exists⟨Nat.zero_le _,fun p1 hp1=>?_⟩;have s1:=Pr.jn hp1 (.lst []);have t1:upd H0 p1 (.lst []) p1=some (.lst []):=jf;have t01:=s1 _ _ t0;generalize upd H0 p1 (.lst [])=H1 at s1 t1 t01|-;have s2:=s0.trans s1;exists ixLm (SqL.of (s2 _ _ hl)) (Pr.jF (by omega) (by omega)) ?_;exists⟨_,rfl,by omega,by omega,?_⟩;refine Jy (fun i σ H'=>∃(o4 o5 o6 o7 o8:Option V) (ph:Addr) (is:List Nat) (hs:List Int),σ=[some (.ref z.r),some (.ref p),some (.ref p0),some (.ref ph),o4,o5,o6,o7,o8]/\Same H H'/\H' p0=some (.lst (is.map vN))/\H' ph=some (.lst (hs.map V.int))/\p0≠ph/\is.length<=i/\hs.length<=8*i/\(∀j∈is,j<m.parts.length)/\Apart m is/\∀j∈is,∀k∈m.hd j,k∈hs)
  ⟨_,_,_,_,_,p1,[],[],rfl,s2,t01,t1,je t0 hp1,Nat.le_refl _,Nat.le_refl _,(fun j h=>nomatch h),⟨(fun j h=>nomatch h),.nil⟩,(fun j h=>nomatch h)⟩ ?_ ?_
 ·rintro i σ H' hi ⟨o4,o5,o6,o7,o8,ph,is,hs,rfl,sm,e0,e1,n01,hil,hhl,hlt,hap,hin⟩;have hi':i<4:=by omega
  have Ri:=R.keeps sm;have ck:=hb.cell (k:=2+(0+(i:Int))) (by omega) (by omega);obtain⟨qs,eqs,aq⟩:=Ri.p;have hq:=aq.1;exists ixLm (SqL.of (sm _ _ hl)) (Pr.jF (by omega) (by omega)) ?_;exists⟨z,m,_,rfl,Ri,hm,by omega,fun f hf=>?_⟩;exists⟨_,_,rfl,jV Ri,?_⟩;exists⟨_,_,rfl,.inl ⟨_,SqL.of eqs,rfl⟩,?_⟩;rw[length_map,hq];exists⟨_,rfl,by omega,by omega,?_⟩;refine Jy (fun _ σ H2=>∃(o6 o7 o8:Option V),σ=[some (.ref z.r),some (.ref p),some (.ref p0),some (.ref ph),some (.int (0+(i:Int))),some (.int (f:Int)),o6,o7,o8]/\Same H' H2) ⟨_,_,_,rfl,Same.refl _⟩ ?_ ?_
  ·rintro i2 σ H2 hi2 ⟨o6,o7,o8,rfl,sm2⟩;have R2:=Ri.keeps sm2;exists⟨_,_,rfl,jV R2,?_⟩;exists⟨_,_,rfl,.inl ⟨_,SqL.of (sm2 _ _ eqs),rfl⟩,?_⟩;rw[length_map,hq];walk_at"g";have a0:=Int.emod_nonneg ((f:Int)+(0+(i2:Int))) (show(m.parts.length:Int)≠0 by omega);have a1:=Int.emod_lt_of_pos ((f:Int)+(0+(i2:Int))) (show 0<(m.parts.length:Int) by omega);obtain⟨j,ej⟩:∃j:Nat,((f:Int)+(0+(i2:Int)))%(m.parts.length:Int)=(j:Int):=⟨_,(Int.toNat_of_nonneg a0).symm⟩
   rw[ej]at a0 a1|-;have hj:j<m.parts.length:=by omega
   obtain⟨a,ha1,ha2,ha3⟩:=Zm R G hj eha;have ha22:=sm2 _ _ (sm _ _ ha2);refine⟨_,_,rfl,Q0 R2,?_⟩;exists ixLm (SqL.of (sm2 _ _ (sm _ _ eha))) (QC (i:=(j:Int)) (by omega) ha1) ?_;exists⟨Nat.zero_le _,fun p3 hp3=>?_⟩;have s3:=Pr.jn hp3 (.lst []);have t3:upd H2 p3 (.lst []) p3=some (.lst []):=jf;generalize upd H2 p3 (.lst [])=H3 at s3 t3|-;refine⟨_,_,WP (s3 _ _ ha22),W8 t3,shp _,shp0,?_⟩;rw[WQ];exists iteN (fun d1=>?_) (fun d1=>?_)
   ·walk_at"g";have hj8:=Y7 G hj;have ha33:=s3 _ _ ha22;have e13:=s3 _ _ (sm2 _ _ e1);refine⟨a,rfl,⟨_,SqL.of ha33⟩,?_⟩;refine Jk (xs:=(m.hd j).map V.int) (fun i ys H'=>ys=(((m.hd j).take i).filter fun k=>decide (k∈hs)).map V.int/\H3=H') ⟨rfl,rfl⟩ ?_ ?_ ?_
    ·rintro i ys H' _ ⟨rfl,rfl⟩;exact SqL.of ha33
    ·rintro i x ys H' hx ⟨rfl,rfl⟩;rw[List.getElem?_map]at hx;obtain⟨n,hn',rfl⟩:=Option.map_eq_some_iff.mp hx;have hi:=(List.getElem?_eq_some_iff.mp hn').1;refine qu (σ':=[none,some _]) rfl ?_;exists⟨ph,_,rfl,.inl (SqL.of e13),rfl,flats hs,?_⟩;rw[inI];walk_at"g";have hle:(((m.hd j).take i).filter fun k=>decide (k∈hs)).length<=8:=Nat.le_trans (length_filter_le _ _) (Nat.le_trans (List.length_take_le' _ _) hj8);refine iteD (fun d2=>?_) (fun d2=>?_)
     ·exists⟨by rw[length_map];omega,?_,rfl⟩;rw[take_snoc hn',filter_append,map_append,filter_cons,if_pos (decide_eq_true d2)];rfl
     ·refine⟨?_,rfl⟩;rw[take_snoc hn',filter_append,map_append,filter_cons,if_neg (by simpa using d2)];exact(append_nil _).symm
    ·rintro ys H' ⟨rfl,rfl⟩;rw[show((m.hd j).map V.int).length=(m.hd j).length from length_map _,take_length];have hle:((m.hd j).filter fun k=>decide (k∈hs)).length<=8:=Nat.le_trans (length_filter_le _ _) hj8;refine⟨by rw[length_map];omega,fun p4 hp4=>?_⟩;have s4:=Pr.jn hp4 (.lst (((m.hd j).filter fun k=>decide (k∈hs)).map V.int));have t4:upd H3 p4 (.lst (((m.hd j).filter fun k=>decide (k∈hs)).map V.int)) p4=some (.lst (((m.hd j).filter fun k=>decide (k∈hs)).map V.int)):=jf;generalize upd H3 p4 (.lst (((m.hd j).filter fun k=>decide (k∈hs)).map V.int))=H4 at s4 t4|-;exists⟨Nat.zero_le _,fun p5 hp5=>?_⟩;have s5:=Pr.jn hp5 (.lst []);have t5:upd H4 p5 (.lst []) p5=some (.lst []):=jf;generalize upd H4 p5 (.lst [])=H5 at s5 t5|-;refine⟨_,_,WP (s5 _ _ t4),W8 t5,shp _,shp0,?_⟩;rw[WQ];walk_at"g";have s35:=s3.trans (s4.trans s5);have smm:=sm.trans (sm2.trans s35);refine iteD (fun d2=>?_) (fun d2=>?_)
     ·have e05:=s35 _ _ (sm2 _ _ e0);have e15:=s35 _ _ (sm2 _ _ e1);have ha5:=smm _ _ ha2;exists⟨.inl ⟨rfl,_,SqL.of e05⟩,?_⟩;exists⟨p0,_,_,rfl,rfl,e05,by rw[length_map];omega,?_⟩;have s6:Same H (upd H5 p0 (.lst (is.map vN++[.int (j:Int)]))):=Ws.Qw smm hp0;have e06:upd H5 p0 (.lst (is.map vN++[.int (j:Int)])) p0=some (.lst ((is++[j]).map vN)):=by rw[jf,map_append];rfl
      have e16:upd H5 p0 (.lst (is.map vN++[.int (j:Int)])) ph=_:=(jk n01.symm).trans e15;have ha6:=s6 _ _ ha2;generalize upd H5 p0 (.lst (is.map vN++[.int (j:Int)]))=H6 at s6 e06 e16 ha6|-;exists⟨ph,a,_,_,rfl,rfl,e16,ha6,by rw[length_map,length_map];omega,fun p7 hp7=>?_⟩;have s7:=Pr.jn hp7 (.lst (hs.map V.int++(m.hd j).map V.int));have e17:upd H6 p7 (.lst (hs.map V.int++(m.hd j).map V.int)) p7=some (.lst ((hs++m.hd j).map V.int)):=by rw[jf,map_append]
      generalize upd H6 p7 (.lst (hs.map V.int++(m.hd j).map V.int))=H7 at s7 e17|-;exists⟨_,_,_,_,_,p7,is++[j],hs++m.hd j,rfl,s6.trans s7,s7 _ _ e06,e17,je e06 hp7,by rw[List.length_append,length_singleton];omega,by rw[List.length_append];omega,fun x hx=>?_,hap.snoc hin d1 fun k hk hk'=>?_,fun x hx k hk=>?_⟩
      ·rcases mem_append.mp hx with e | e
       ·exact hlt x e
       ·have e':x=j:=by simpa using e
        omega
      ·have:k∈(m.hd j).filter fun k=>decide (k∈hs):=mem_filter.mpr ⟨hk,decide_eq_true hk'⟩
       rw[d2]at this;cases this
      ·rcases mem_append.mp hx with e | e
       ·exact mem_append_left _ (hin x e k hk)
       ·have e':x=j:=by simpa using e
        subst e';exact mem_append_right _ hk
     ·exact⟨_,_,_,rfl,sm2.trans s35⟩
   ·refine iteF ?_;exact⟨_,_,_,rfl,sm2.trans s3⟩
  ·rintro σ H2 ⟨o6,o7,o8,rfl,sm2⟩;walk_at"g";exact⟨_,_,_,_,_,ph,is,hs,rfl,sm.trans sm2,sm2 _ _ e0,sm2 _ _ e1,n01,by omega,by omega,hlt,hap,hin⟩
 ·rintro σ H' ⟨o4,o5,o6,o7,o8,ph,is,hs,rfl,sm,e0,e1,n01,hil,hhl,hlt,hap,hin⟩;walk_at"g";exact q p0 is H' sm hp0 e0 (by omega) hlt hap
theorem ZH(T:Txt K mg t)(ju:FnOk P w K mg base CX0 1 t.jQ t.jR ["_law_cell","_law_turn"] (qV))(jK:FnOk P w K mg base CX0 1 t.Je t.Jf ["_law_cell","_law_mixed","_law_least"] (Q4))(jO:FnOk P w K mg base CX0 1 t.qc t.qd ["_law_room_here","_law_form","_law_hands","_law_long"] (sp_add))(Jd:FnOk P w K mg base CX0 2 t.Jw t.Jx ["_law_room_here","_law_cell","_law_some"] (sp_simple))(JI:FnOk P w K mg base CX0 1 t.JK t.JN ["_law_room_here","_law_number_here"] (sp_there))(QA:FnOk P w K mg base CX0 2 t.qm t.qq ["_law_room_here","_law_some"] (sp_apart)):FnOk P w K mg base CX0 3 t.JV t.JY ["_law_room_here","_law_cell","_law_some"] (sp_naming):=by
 refine T.Q7.ok jA (fun vs H Q E h=>?_) (fun cdv A outer s H vs Q E hr h=>?_)
 ·cases h;subst_vars;rfl
 obtain⟨z,m,c,p,ns,rfl,R,G,hm,ml,hl,op,hn,hb,q⟩:=h;refine⟨_,(jd (Zp (i:=3) (ow:=["_law_one"]) (ci:=[0]) rfl (CompScope.of (defScope Jh) ["_law_room_here","_law_cell","_law_some","_law_there_here","_law_long","_law_hands","_law_one","_law_names_here","_law_times"] rfl rfl (by decide +kernel)) (J2 (by decide)) jA.nd rfl (.inl rfl) (Ji (Jb Qg (pv 2) (j9 jb) (j9 (jh jJ jb (jh jy (ji jp (pv 2) jb) jb))))) (fun _ _ _ _ _=>⟨(jv (i:=0) (qp ["_law_room_here","_law_cell","_law_some","_law_there_here","_law_long","_law_hands","_law_one","_law_names_here","_law_times"] rfl (by decide +kernel)) rfl (.inl rfl)),QV,(jo (JI.mono (by decide)) hr (by rfl) T.zE T.Qz.kp T.zm .nil pass0 (ja (pv 1) (ja (pv 0) jc)))⟩))
  (jd (zR (jt JR (jh jy (ji jp (pv 2) jb) jb) jb (nomark _))
   (jd (jj (i:=3) jA.nd rfl (.inl rfl) (jo (QA.mono (by decide)) hr (by rfl) T.yP T.zn.kp T.yA .nil pass0 (ja (pv 0) (ja (pv 2) jc))))
   (jg (Jt (jt kQ (jq jG (by rfl) T.Jr jW (ja (pv 3) jc)) jb (nomark _))
    (jd (jD (jo (Jd.mono (by decide)) hr (by rfl) T.Ql T.qx.kp T.Qh .nil pass0 (ja (pv 0) (ja (pv 1) (ja (pv 2) jc)))))
    (jg WA))
    jM)))
   jM)
  (jd (Zp (i:=4) (ow:=["_law_one"]) (ci:=[0]) rfl (CompScope.of (defScope Jh) ["_law_room_here","_law_cell","_law_some","_law_there_here","_law_long","_law_hands","_law_one","_law_names_here","_law_times"] rfl rfl (by decide +kernel)) (J2 (by decide)) jA.nd rfl (.inl rfl) (Ji (pv 3)) (fun _ _ _ _ _=>⟨(jv (i:=0) (qp ["_law_room_here","_law_cell","_law_some","_law_there_here","_law_long","_law_hands","_law_one","_law_names_here","_law_times"] rfl (by decide +kernel)) rfl (.inl rfl)),QV,(ji (Qu (K:=K) rfl) (jw (jI hr) (pv 1) jr) (pv 0))⟩))
  (jd (zR (PW.pt (yZ (jt JR (jh jy (ji jp (pv 2) jb) jb) jb (nomark _)) (Zq (jt ZN (jq (zL rfl) (by rfl) T.KZ Y0 (ja (pv 4) jc)) (jh qM jb jb) (nomark _)))))
   (jd (jj (i:=3) jA.nd rfl (.inl rfl) (Jb Qg (pv 3) qD (j9 jb)))
   (jg (jj (i:=4) jA.nd rfl (.inl rfl) (Jb Qg (pv 4) qD (j9 jb)))))
   jM)
  (jd (jj (i:=5) jA.nd rfl (.inr rfl) (Ja jc))
  (jd (Jp PassesOwn.never rfl (Ji (pv 3)) (jv (i:=6) jA.nd rfl (.inl rfl))
   (jg (jj (i:=5) jA.nd rfl (.inr rfl) (jh kh (pv 5) (qR (ow:=["_law_hand"]) (ci:=[5]) rfl (CompScope.of (defScope Jh) ["_law_room_here","_law_cell","_law_some","_law_there_here","_law_long","_law_hands","_law_one","_law_names_here","_law_times"] rfl rfl (by decide +kernel)) (J2 (by decide)) (Ji (ji jp (jw (jI hr) (pv 0) jr) (pv 6))) (fun _ _ _ _ _=>⟨(jv (i:=0) (qp ["_law_room_here","_law_cell","_law_some","_law_there_here","_law_long","_law_hands","_law_one","_law_names_here","_law_times"] rfl (by decide +kernel)) rfl (.inl rfl)),(ZO (jt (zb (K:=K) rfl) (pv 0) (pv 1) (by with_unfolding_all rfl))),(pv 0)⟩))))))
  (jd (jj (i:=7) jA.nd rfl (.inl rfl) (Jz qz (by rfl) T.zv QO (ja (qR (ow:=["_law_one"]) (ci:=[0]) rfl (CompScope.of (defScope Jh) ["_law_room_here","_law_cell","_law_some","_law_there_here","_law_long","_law_hands","_law_one","_law_names_here","_law_times"] rfl rfl (by decide +kernel)) (J2 (by decide)) (Ji (pv 3)) (fun _ _ _ _ _=>⟨(jv (i:=0) (qp ["_law_room_here","_law_cell","_law_some","_law_there_here","_law_long","_law_hands","_law_one","_law_names_here","_law_times"] rfl (by decide +kernel)) rfl (.inl rfl)),QV,(ji (Zn (K:=K) rfl) (ji (Qu (K:=K) rfl) (jw (jI hr) (pv 1) jr) (pv 0)) jb)⟩)) jc)))
  (jg (Jt (jt JR (jh jy (ji jp (pv 2) jb) jb) jb (nomark _))
   (jg (jD (jo (jO.mono (by decide)) hr (by rfl) T.qg T.JC.kp T.qa .nil pass0 (ja (pv 0) (ja (j8 (ja jr (ja (pv 7) jc))) (ja (jq QD (by rfl) T.zu QZ (ja (pv 5) jc)) (ja (jq (zL rfl) (by rfl) T.KZ Y0 (ja (pv 4) jc)) jc)))))))
   (jg (Jt (jt JR (jh jy (ji jp (pv 2) jb) jb) jb (nomark _))
    (jg (jD (jo (jO.mono (by decide)) hr (by rfl) T.qg T.JC.kp T.qa .nil pass0 (ja (pv 0) (ja (j8 (ja jr (ja (pv 7) jc))) (ja (jq QD (by rfl) T.zu QZ (ja (pv 5) jc)) (ja (jq (Kk rfl) (by rfl) T.WN K0 (ja (pv 4) jc)) jc)))))))
    (jd (jj (i:=8) jA.nd rfl (.inl rfl) (jo (jK.mono (by decide)) hr (by rfl) T.qB T.JT.kp T.qw .nil pass0 (ja (jo (ju.mono (by decide)) hr (by rfl) T.Jg T.jX.kp T.Jc .nil pass0 (ja (pv 1) (ja jb jc))) (ja (ji jp (pv 2) jb) (ja jb jc)))))
    (jd (zR (jt ZN (jh JP (pv 8) (ji jp (pv 4) jb)) (jh qM jb jb) (nomark _))
     (jg (jj (i:=8) jA.nd rfl (.inl rfl) jb))
     jM)
    (jg (jD (jo (jO.mono (by decide)) hr (by rfl) T.qg T.JC.kp T.qa .nil pass0 (ja (pv 0) (ja (j8 (ja jr (ja (pv 8) (ja (ji jC (pv 7) jb) jc)))) (ja (ji jp (jw (jI hr) (pv 0) jr) (ji jp (pv 3) jb)) (ja (jh JP (pv 8) (ji jp (pv 4) jb)) jc)))))))))))))))))))),?_⟩
 refine jE (σ':=[some _,some _,some _,none,none,none,none,none,none]) rfl ?_;have sz:(200:Nat)<sizeLine:=by decide
 have nl:=G.nl;have c0:=hb.cell (k:=0) (by omega) (by omega);have c1:=hb.cell (k:=1) (by omega) (by omega);exists ixLm (SqL.of hl) (Pr.jF (by omega) (by omega)) ?_;exists⟨p,_,rfl,SqL.of hl,fun p1 hp1=>?_⟩;rw[wW (by omega) (by omega)];have hml:((ns.drop 2).take (3+Pr.cell ns 1%8-2).toNat).length=(1+Pr.cell ns 1%8).toNat:=by rw[length_take,length_drop];omega
 have hmb:∀n∈(ns.drop 2).take (3+Pr.cell ns 1%8-2).toNat,0<=n:=fun n h=>(hb n (mem_of_mem_drop (mem_of_mem_take h))).1
 generalize(ns.drop 2).take (3+Pr.cell ns 1%8-2).toNat=ms at hml hmb|-;have s1:=Pr.jn hp1 (.lst (ms.map V.int));have t1:upd H p1 (.lst (ms.map V.int)) p1=some (.lst (ms.map V.int)):=jf;generalize upd H p1 (.lst (ms.map V.int))=H1 at s1 t1|-;have R1:=R.keeps s1;refine⟨p1,rfl,⟨_,SqL.of t1⟩,?_⟩;refine Jk (xs:=ms.map V.int) (fun i ys H'=>∃is:List Nat,ys=is.map vN/\is.length=i/\(∀j∈is,j<m.parts.length)/\H1=H') ⟨[],rfl,rfl,(fun z h=>nomatch h),rfl⟩ ?_ ?_ ?_
 ·rintro i ys H' _ ⟨is,rfl,hz,h1,rfl⟩;exact SqL.of t1
 ·rintro i x ys H' hx ⟨is,rfl,hz,h1,rfl⟩;obtain⟨n,hn',rfl⟩:=mem_map.mp (mem_of_getElem? hx);have hi:=(List.getElem?_eq_some_iff.mp hx).1;rw[length_map]at hi;refine qu (σ':=[none,some _]) rfl ?_;exists iteT ?_;exists⟨z,m,n,rfl,R1,hm,hmb n hn',fun j hj=>?_⟩;refine⟨by rw[length_map];omega,is++[j],by rw[map_append];rfl,by simp[hz],fun y hy=>?_,rfl⟩;rcases mem_append.mp hy with w | w
  ·exact h1 y w
  ·have e:y=j:=by simpa using w
   omega
 rintro ys H' ⟨is,rfl,hil,hlt,rfl⟩;rw[length_map]at hil;refine⟨by rw[length_map];omega,fun p2 hp2=>?_⟩;have s2:=s1.trans (Pr.jn hp2 (.lst (is.map vN)));have t2:upd H1 p2 (.lst (is.map vN)) p2=some (.lst (is.map vN)):=jf;generalize upd H1 p2 (.lst (is.map vN))=H2 at s2 t2|-;have R2:=R.keeps s2;exists⟨fun σ' H'=>∃(l:Addr) (is:List Nat),σ'=[some (.ref z.r),some (.int c),some (.ref p),some (.ref l),none,none,none,none,none]/\Same H H'/\H' l=some (.lst (is.map vN))/\1<=is.length/\is.length<=8/\(∀j∈is,j<m.parts.length)/\(Pr.cell ns 0%8=6->Apart m is/\2<=is.length/\is.length<=4),?_,?_⟩
 rotate_left
 ·exists ixLm (SqL.of (s2 _ _ hl)) (Pr.jF (by omega) (by omega)) ?_;exists iteD (fun d1=>?_) (fun d1=>?_)
  ·exists⟨z,m,p,ns,rfl,R2,G,hm,ml,s2 _ _ hl,by omega,hb,fun l js H3 s3 hl3 e3 h4 hj ap=>?_⟩;exists⟨_,_,rfl,.inl ⟨_,SqL.of e3,rfl⟩,?_⟩;rw[length_map];exists iteD (fun d2=>?_) (fun d2=>?_)
   ·exists⟨z,m,c,p,ns,rfl,R2.keeps s3,G,by omega,s3 _ _ (s2 _ _ hl),op,by omega,hb,fun m' H' k R' G' hl'=>?_⟩;walk_at"g";exact q m' H' ((Rm.Kp.of (s2.trans s3)).trans k) R' G' hl'
   ·walk_at"g";exact⟨l,js,rfl,s2.trans s3,e3,by omega,by omega,hj,fun _=>⟨ap,by omega,h4⟩⟩
  ·walk_at"g";exact⟨p2,is,rfl,s2,t2,by omega,by omega,hlt,fun e=>absurd e d1⟩
 rintro σ' H3 ⟨l,is,rfl,s3,e3,i1,i8,hj,ap⟩;clear hlt hil t2 s2 R2 hp2 p2 H2 t1 R1 s1;have R3:=R.keeps s3;exists⟨l,rfl,⟨_,SqL.of e3⟩,?_⟩;refine Jk (xs:=is.map vN) (fun i ys H'=>ys=((is.take i).map m.lg).map V.int/\H3=H') ⟨rfl,rfl⟩ ?_ ?_ ?_
 ·rintro i ys H' _ ⟨rfl,rfl⟩;exact SqL.of e3
 ·rintro i x ys H' hx ⟨rfl,rfl⟩;obtain⟨j,hj1,rfl,hj2⟩:=ze hx;have hi:=(List.getElem?_eq_some_iff.mp hj1).1;refine qu (σ':=[none,some _]) rfl ?_;exists iteT ?_;exists⟨_,_,rfl,ZA R3,?_⟩;exists ixLm (SqL.of R3.g) (yO G (hj j hj2)) ?_;refine⟨by rw[length_map,length_map,length_take];omega,?_,rfl⟩;rw[take_snoc hj1,map_append,map_append];rfl
 rintro ys H' ⟨rfl,rfl⟩;rw[show(is.map vN).length=is.length from length_map _,take_length];refine⟨by rw[length_map,length_map];omega,fun p4 hp4=>?_⟩;have s4:=s3.trans (Pr.jn hp4 (.lst ((is.map m.lg).map V.int)));have e34:=Pr.jn hp4 (.lst ((is.map m.lg).map V.int)) _ _ e3;have t4:upd H3 p4 (.lst ((is.map m.lg).map V.int)) p4=some (.lst ((is.map m.lg).map V.int)):=jf;generalize upd H3 p4 (.lst ((is.map m.lg).map V.int))=H4 at s4 e34 t4|-;exists⟨fun σ' H'=>∃(l g:Addr) (is:List Nat),σ'=[some (.ref z.r),some (.int c),some (.ref p),some (.ref l),some (.ref g),none,none,none,none]/\Same H H'/\H' l=some (.lst (is.map vN))/\H' g=some (.lst ((is.map m.lg).map V.int))/\1<=is.length/\is.length<=8/\(∀j∈is,j<m.parts.length)/\(Pr.cell ns 0%8=6->Apart m is/\2<=is.length/\is.length<=4)/\(Pr.cell ns 0%8=5->(is.map m.lg).sum<=10^60),?_,?_⟩
 rotate_left
 ·exists ixLm (SqL.of (s4 _ _ hl)) (Pr.jF (by omega) (by omega)) ?_;exists iteD (fun d1=>?_) (fun d1=>?_)
  ·exists⟨_,_,rfl,SqL.of t4,?_⟩;exists iteD (fun d2=>?_) (fun d2=>?_)
   ·exists⟨l,_,rfl,SqL.of e34,fun p5 hp5=>?_⟩;rw[cut1];have s5:=Pr.jn hp5 (.lst ((is.map vN).take 1));have t5:upd H4 p5 (.lst ((is.map vN).take 1)) p5=some (.lst ((is.take 1).map vN)):=by rw[jf,map_take]
    generalize upd H4 p5 (.lst ((is.map vN).take 1))=H5 at s5 t5|-;exists⟨p4,_,rfl,SqL.of (s5 _ _ t4),fun p6 hp6=>?_⟩;rw[cut1];have s6:=Pr.jn hp6 (.lst (((is.map m.lg).map V.int).take 1));have t6:upd H5 p6 (.lst (((is.map m.lg).map V.int).take 1)) p6=some (.lst (((is.take 1).map m.lg).map V.int)):=by rw[jf,map_take,map_take]
    generalize upd H5 p6 (.lst (((is.map m.lg).map V.int).take 1))=H6 at s6 t6|-;walk_at"g";have e1:(is.take 1).length=1:=by rw[length_take];omega
    have hj':∀j∈is.take 1,j<m.parts.length:=fun j h=>hj j (mem_of_mem_take h)
    have e2:=(y8 G hj').2;rw[e1]at e2;exact⟨p5,p6,is.take 1,rfl,s4.trans (s5.trans s6),s6 _ _ t5,t6,by omega,by omega,hj',fun e=>by omega,fun _=>by omega⟩
   ·walk_at"g";exact⟨l,p4,is,rfl,s4,e34,t4,i1,i8,hj,ap,fun _=>by omega⟩
  ·refine iteF ?_;walk_at"g";exact⟨l,p4,is,rfl,s4,e34,t4,i1,i8,hj,ap,fun e=>absurd e d1⟩
 clear t4 e34 s4 hp4 p4 H4 R3 i1 i8 hj ap e3 s3 l is H3;rintro σ' H5 ⟨l,g,is,rfl,s5,e5,t5,i1,i8,hj,ap,sm⟩;have R5:=R.keeps s5;exists⟨Nat.zero_le _,fun p6 hp6=>?_⟩;have s6:=s5.trans (Pr.jn hp6 (.lst []));have e6:=Pr.jn hp6 (.lst []) _ _ e5;have g6:=Pr.jn hp6 (.lst []) _ _ t5;have t6:upd H5 p6 (.lst []) p6=some (.lst []):=jf;generalize upd H5 p6 (.lst [])=H6 at s6 e6 g6 t6|-;walk_at"g";obtain⟨ha,eha,aha⟩:=R.h;refine⟨l,rfl,⟨_,SqL.of e6⟩,?_⟩;refine QQ (xs:=is.map vN) (fun i σ H'=>∃(h:Addr) (hs:List Int) (o6:Option V),σ=[some (.ref z.r),some (.int c),some (.ref p),some (.ref l),some (.ref g),some (.ref h),o6,none,none]/\Same H6 H'/\H' h=some (.lst (hs.map V.int))/\hs.length<=8*i/\hs.Nodup/\∀k,k∈hs↔∃j∈is.take i,k∈m.hd j)
  ⟨p6,[],none,rfl,Same.refl _,t6,Nat.zero_le _,.nil,fun k=>⟨(fun h=>nomatch h),fun⟨j,h,_⟩=>by simp at h⟩⟩ ?_ ?_ ?_
 ·rintro i σ H' _ ⟨h,hs,o6,rfl,sm7,th,hl8,hnd,hmem⟩;exact SqL.of (sm7 _ _ e6)
 ·rintro i x σ H' hx ⟨h,hs,o6,rfl,sm7,th,hl8,hnd,hmem⟩;obtain⟨j,hj1,rfl,hj2⟩:=ze hx;have hi:=(List.getElem?_eq_some_iff.mp hj1).1;have s7:=s6.trans sm7;have R7:=R.keeps s7;have hj8:=Y7 G (hj j hj2);obtain⟨a,ha1,ha2,ha3⟩:=Zm R G (hj j hj2) eha;have ha7:=s7 _ _ ha2;exists⟨_,_,rfl,Q0 R7,?_⟩;exists ixLm (SqL.of (s7 _ _ eha)) (QC (i:=(j:Int)) (by omega) ha1) ?_;refine⟨a,rfl,⟨_,SqL.of ha7⟩,?_⟩;refine Jk (xs:=(m.hd j).map V.int) (fun i ys H''=>ys=(((m.hd j).take i).filter fun k=>!decide (k∈hs)).map V.int/\H'=H'') ⟨rfl,rfl⟩ ?_ ?_ ?_
  ·rintro i ys H'' _ ⟨rfl,rfl⟩;exact SqL.of ha7
  ·rintro i x ys H'' hx ⟨rfl,rfl⟩;rw[List.getElem?_map]at hx;obtain⟨n,hn',rfl⟩:=Option.map_eq_some_iff.mp hx;refine qu (σ':=[none,some _]) rfl ?_;exists⟨h,_,rfl,.inl (SqL.of th),rfl,flats hs,?_⟩;rw[notInI];walk_at"g";have hle:(((m.hd j).take i).filter fun k=>!decide (k∈hs)).length<=8:=Nat.le_trans (length_filter_le _ _) (Nat.le_trans (List.length_take_le' _ _) hj8);refine iteN (fun d2=>?_) (fun d2=>?_)
   ·exists⟨by rw[length_map];omega,?_,rfl⟩;rw[take_snoc hn',filter_append,map_append,filter_cons,if_pos (by simpa using d2)];rfl
   ·refine⟨?_,rfl⟩;rw[take_snoc hn',filter_append,map_append,filter_cons,if_neg (by simpa using d2)];exact(append_nil _).symm
  ·rintro ys H'' ⟨rfl,rfl⟩;rw[show((m.hd j).map V.int).length=(m.hd j).length from length_map _,take_length];have hle:((m.hd j).filter fun k=>!decide (k∈hs)).length<=8:=Nat.le_trans (length_filter_le _ _) hj8;obtain⟨nd8,mem8⟩:=ZB hj1 hmem hnd (WR G (hj j hj2));generalize(m.hd j).filter (fun k=>!decide (k∈hs))=fs at hle nd8 mem8|-;refine⟨by rw[length_map];omega,fun p8 hp8=>?_⟩;have s8:=Pr.jn hp8 (.lst (fs.map V.int));have t8:upd H' p8 (.lst (fs.map V.int)) p8=some (.lst (fs.map V.int)):=jf;generalize upd H' p8 (.lst (fs.map V.int))=H8 at s8 t8|-;refine⟨h,p8,_,_,rfl,rfl,s8 _ _ th,t8,by rw[length_map,length_map];omega,fun p9 hp9=>?_⟩;have s9:=Pr.jn hp9 (.lst (hs.map V.int++fs.map V.int));have t9:upd H8 p9 (.lst (hs.map V.int++fs.map V.int)) p9=some (.lst ((hs++fs).map V.int)):=by rw[jf,map_append]
   generalize upd H8 p9 (.lst (hs.map V.int++fs.map V.int))=H9 at s9 t9|-;walk_at"g";exact⟨p9,hs++fs,_,rfl,sm7.trans (s8.trans s9),t9,by rw[List.length_append];omega,nd8,mem8⟩
 rintro σ' H7 ⟨h,hs,o6,rfl,sm7,th,hl8,hnd,hmem⟩;rw[show(is.map vN).length=is.length from length_map _]at hl8 hmem;rw[take_length]at hmem;have s7:=s6.trans sm7;have R7:=R.keeps s7;have e7:=sm7 _ _ e6;have g7:=sm7 _ _ g6;walk_at"g";obtain⟨qs,eqs,aqs⟩:=R7.p;have part_at:∀j∈is,∃a b,qs[j]?=some a/\H7 a=some (.tup [.str (m.nm j),.ref b]):=fun j hjm=>by
  obtain⟨a,ha,b,hb,_⟩:=aqs.get (List.getElem?_eq_getElem (hj j hjm));rw[(G.ps j _ (List.getElem?_eq_getElem (hj j hjm))).1]at hb;exact⟨a,b,ha,hb⟩
 refine⟨l,rfl,⟨_,SqL.of e7⟩,?_⟩;refine Jk (xs:=is.map vN) (fun i ys H'=>ys=((is.take i).map m.nm).map V.str/\H7=H') ⟨rfl,rfl⟩ ?_ ?_ ?_
 ·rintro i ys H' _ ⟨rfl,rfl⟩;exact SqL.of e7
 ·rintro i x ys H' hx ⟨rfl,rfl⟩;obtain⟨j,hj1,rfl,hj2⟩:=ze hx;have hi:=(List.getElem?_eq_some_iff.mp hj1).1;obtain⟨a,b,ha,hb⟩:=part_at j hj2;refine qu (σ':=[none,some _]) rfl ?_;exists iteT ?_;exists⟨_,_,rfl,jV R7,?_⟩;exists ixLm (SqL.of eqs) (QC (i:=(j:Int)) (by omega) ha) ?_;exists ixTm (SqT.of hb) rfl ?_;refine⟨by rw[length_map,length_map,length_take];omega,?_,rfl⟩;rw[take_snoc hj1,map_append,map_append];rfl
 rintro ys H' ⟨rfl,rfl⟩;rw[show(is.map vN).length=is.length from length_map _,take_length];refine⟨by rw[length_map,length_map];omega,fun p8 hp8=>?_⟩;have s8:=Pr.jn hp8 (.lst ((is.map m.nm).map V.str));have t8:upd H7 p8 (.lst ((is.map m.nm).map V.str)) p8=some (.lst ((is.map m.nm).map V.str)):=jf;generalize upd H7 p8 (.lst ((is.map m.nm).map V.str))=H8 at s8 t8|-;exists⟨p8,_,rfl,.inl ⟨SqL.of t8,fun p9 hp9=>?_⟩⟩;have s9:=Pr.jn hp9 (.tup ((is.map m.nm).map V.str));have t9:upd H8 p9 (.tup ((is.map m.nm).map V.str)) p9=some (.tup ((is.map m.nm).map V.str)):=jf;generalize upd H8 p9 (.tup ((is.map m.nm).map V.str))=H9 at s9 t9|-;have s79:=s8.trans s9;have e9:=s79 _ _ e7;have g9:=s79 _ _ g7;have h9:=s79 _ _ th;have R9:=R7.keeps s79;have s09:=s7.trans s79;clear t8 s8 s9 hp8 hp9 part_at aqs eqs qs;have hk:=Yo G hj hmem;have hs8:hs.length<=8:=Nat.le_trans (Q2 hnd hk) G.l8;have e1:=G.hl;have e2:=G.gl;have sl:=y8 G hj;exists ixLm (SqL.of (s09 _ _ hl)) (Pr.jF (by omega) (by omega)) ?_;exists iteD (fun d1=>?_) (fun d1=>?_)
 ·exists⟨(by show 2<=sizeLine;omega),fun p10 hp10=>?_⟩;have s10:=Pr.jn hp10 (.tup [.str "row",.ref p9]);have t10:upd H9 p10 (.tup [.str "row",.ref p9]) p10=some (.tup [.str "row",.ref p9]):=jf;generalize upd H9 p10 (.tup [.str "row",.ref p9])=H10 at s10 t10|-;have R10:=R9.keeps s10;exists⟨h,hs,rfl,SqL.of (s10 _ _ h9),Nat.lt_of_le_of_lt hs8 (by decide),fun p11 ms hp11 perm ord=>?_⟩;have s11:=Pr.jn hp11 (.lst (ms.map V.int));have t11:upd H10 p11 (.lst (ms.map V.int)) p11=some (.lst (ms.map V.int)):=jf;generalize upd H10 p11 (.lst (ms.map V.int))=H11 at s11 t11|-;have R11:=R10.keeps s11;exists⟨_,_,rfl,SqL.of (s11 _ _ (s10 _ _ g9)),?_⟩;exists⟨z,m,p10,p11,.row (is.map m.nm),ms,_,rfl,R11,⟨p9,s11 _ _ t10,s11 _ _ (s10 _ _ t9)⟩,⟨t11,qt R10 hp11⟩,by omega,by omega,by omega,nl,fun H' k R' _=>?_⟩;exact q _ _ ((Rm.Kp.of (s09.trans (s10.trans s11))).trans k) R' (G.add ⟨⟨is,⟨rfl,hj⟩,i1,i8,fun k=>perm.mem_iff.trans (hmem k),rfl⟩,fun k h=>hk k (perm.mem_iff.mp h),zU perm hnd ord,by omega,sm d1⟩) qP
 exists ixLm (SqL.of (s09 _ _ hl)) (Pr.jF (by omega) (by omega)) ?_;exists iteD (fun d2=>?_) (fun d2=>?_)
 ·exists⟨(by show 2<=sizeLine;omega),fun p10 hp10=>?_⟩;have s10:=Pr.jn hp10 (.tup [.str "side",.ref p9]);have t10:upd H9 p10 (.tup [.str "side",.ref p9]) p10=some (.tup [.str "side",.ref p9]):=jf;generalize upd H9 p10 (.tup [.str "side",.ref p9])=H10 at s10 t10|-;have R10:=R9.keeps s10;exists⟨h,hs,rfl,SqL.of (s10 _ _ h9),Nat.lt_of_le_of_lt hs8 (by decide),fun p11 ms hp11 perm ord=>?_⟩;have s11:=Pr.jn hp11 (.lst (ms.map V.int));have t11:upd H10 p11 (.lst (ms.map V.int)) p11=some (.lst (ms.map V.int)):=jf;generalize upd H10 p11 (.lst (ms.map V.int))=H11 at s11 t11|-;have R11:=R10.keeps s11;exists⟨_,_,rfl,SqL.of (s11 _ _ (s10 _ _ g9)),by rw[length_map];omega,fun gm hgm hall=>?_⟩;obtain⟨j1,hj1,rfl⟩:=mem_map.mp hgm;have lj:=wl G (hj j1 hj1);obtain⟨ap1,ap2,ap3⟩:=ap d2;exists⟨z,m,p10,p11,.side (is.map m.nm),ms,_,rfl,R11,⟨p9,s11 _ _ t10,s11 _ _ (s10 _ _ t9)⟩,⟨t11,qt R10 hp11⟩,by omega,by omega,by omega,nl,fun H' k R' _=>?_⟩;exact q _ _ ((Rm.Kp.of (s09.trans (s10.trans s11))).trans k) R' (G.add ⟨⟨is,⟨rfl,hj⟩,ap2,ap3,ap1,fun k=>perm.mem_iff.trans (hmem k),⟨j1,hj1,rfl⟩,fun j hj'=>hall _ (mem_map.mpr ⟨j,hj',rfl⟩)⟩,fun k h=>hk k (perm.mem_iff.mp h),zU perm hnd ord,lj.1,lj.2⟩) qP
 obtain⟨j0,r,rfl⟩:∃j0 r,is=j0::r:=by
  cases is with
  | nil=>exact absurd i1 (by decide)
  | cons j0 r=>exact⟨j0,r,rfl⟩
 have hj0:=hj j0 mem_cons_self;have lj:=wl G hj0;exists⟨_,_,rfl,by omega,by omega,fun wn=>?_⟩;have c10:=hb.cell (k:=10) (by omega) (by omega);exists ixLm (SqL.of (s09 _ _ hl)) (Pr.jF (by omega) (by omega)) ?_;exists⟨_,_,_,rfl,by omega,by omega,by omega,by omega,fun tm tm1 tm2=>?_⟩;exists⟨fun σ' H'=>∃t:Int,σ'=[some (.ref z.r),some (.int c),some (.ref p),some (.ref l),some (.ref g),some (.ref h),o6,some (.ref p9),some (.int t)]/\1<=t/\t<=10^18/\t*m.lg j0<=10^60/\H9=H',?_,?_⟩
 rotate_left
 ·exists ixLm (SqL.of g9) (at0) ?_;exists iteD (fun d3=>?_) (fun d3=>?_)
  ·walk_at"g";exact⟨1,rfl,by omega,by omega,by rw[Int.one_mul];exact lj.2,rfl⟩
  ·walk_at"g";exact⟨tm,rfl,tm1,tm2,by omega,rfl⟩
 rintro σ' H' ⟨t,rfl,u1,u2,u3,rfl⟩;exists ixTm (SqT.of t9) (at0) ?_;exists⟨(by show 3<=sizeLine;omega),?_⟩;walk_at"f 10 t";have R10:=R9.keeps s10;obtain⟨a,ha1,ha2,ha3⟩:=Zm R G hj0 eha;have s0A:=s09.trans s10;exists⟨_,_,rfl,Q0 R10,?_⟩;exists ixLm (SqL.of (s10 _ _ e9)) (at0) ?_;refine ixLm (SqL.of (s0A _ _ eha)) (QC (i:=(j0:Int)) (by omega) ha1) ?_;exists ixLm (SqL.of (s10 _ _ g9)) (at0) ?_;walk_at"g";have pos:=Int.mul_pos (show 0<t by omega) (show 0<m.lg j0 by omega);refine⟨z,m,p10,a,.again t (m.nm j0),m.hd j0,_,rfl,R10,t10,⟨s0A _ _ ha2,ha3⟩,by omega,by omega,by omega,nl,fun H' k R' _=>?_⟩;have oj:=(G.ps j0 _ (List.getElem?_eq_getElem hj0)).2;exact q _ _ ((Rm.Kp.of s0A).trans k) R' (G.add ⟨⟨u1,u2,j0,hj0,rfl,rfl,rfl⟩,oj.k,oj.o,by omega,u3⟩) qP
theorem yV(T:Txt K mg t)(jz:FnOk P w K mg base CX0 1 t.j5 t.j6 ["_law_script","_law_k"] (Pr.sp_cell_at K))(ju:FnOk P w K mg base CX0 1 t.jQ t.jR ["_law_cell","_law_turn"] (qV))(jB:FnOk P w K mg base CX0 1 t.jY t.jZ ["_law_cell","_law_many"] (Ws.Qx))(JH:FnOk P w K mg base CX0 2 t.JJ t.JM ["_law_cell","_law_many"] (sp_namesT))(jK:FnOk P w K mg base CX0 1 t.Je t.Jf ["_law_cell","_law_mixed","_law_least"] (Q4))(Jd:FnOk P w K mg base CX0 2 t.Jw t.Jx ["_law_room_here","_law_cell","_law_some"] (sp_simple))(Qj:FnOk P w K mg base CX0 3 t.JV t.JY ["_law_room_here","_law_cell","_law_some"] (sp_naming)):FnOk P w K mg base CX0 4 t.qH t.qJ ["_law_script"] (sp_roomB K):=by
 refine T.zX.ok jT (fun vs H Q E h=>?_) (fun cdv A outer s H vs Q E hr h=>?_)
 ·cases h;subst_vars;rfl
 obtain⟨a,ns,rfl,hS,h63,q⟩:=h;refine⟨_,(jd (jj (i:=1) jT.nd rfl (.inl rfl) (jo (jB.mono (by decide)) hr (by rfl) T.J0 T.Jv.kp T.JS .nil pass0 (ja (jo (jz.mono (by decide)) hr (by rfl) T.Jl T.j4.kp T.Jj .nil pass0 (ja (pv 0) (ja jb jc))) (ja jb jc))))
  (jd (jj (i:=2) jT.nd rfl (.inl rfl) (jo (JH.mono (by decide)) hr (by rfl) T.zD T.Qy.kp T.zk .nil pass0 (ja (jo (jz.mono (by decide)) hr (by rfl) T.Jl T.j4.kp T.Jj .nil pass0 (ja (pv 0) (ja jb jc))) (ja jb jc))))
  (jd (jj (i:=3) jT.nd rfl (.inl rfl) (Ja jc))
  (jd (Jp PassesOwn.never rfl (JA (by rfl) T.JL (ja (jh jJ jb (jh jy (ji jp (pv 1) jb) jb)) jc)) (jv (i:=4) jT.nd rfl (.inl rfl))
   (jd (jj (i:=5) jT.nd rfl (.inl rfl) (ji jp (Ja (ja (jh jJ jb (pv 4)) (ja (jh jJ jb (pv 4)) (ja (jh jy (jh jJ (jh JF (ji jp (pv 1) jb) jb) (jh JP jb (pv 4))) jb) jc)))) (jh jy (ji jp (pv 1) jb) jb)))
   (jd (jj (i:=6) jT.nd rfl (.inl rfl) (jo (ju.mono (by decide)) hr (by rfl) T.Jg T.jX.kp T.Jc .nil pass0 (ja (jo (jz.mono (by decide)) hr (by rfl) T.Jl T.j4.kp T.Jj .nil pass0 (ja (pv 0) (ja jb jc))) (ja (jh jJ jb (pv 4)) jc))))
   (jg (jD (qO PySem.F.plainAttrs_list PySem.F.slot_list_append PySem.F.type_list_append jP (pv 3) (ja (j8 (ja (ji jp (pv 2) (pv 5)) (ja (jo (jK.mono (by decide)) hr (by rfl) T.qB T.JT.kp T.qw .nil pass0 (ja (pv 6) (ja (ji jp (pv 1) (jh jJ jb (pv 4))) (ja jb jc)))) jc))) jc)))))))
  (jd (jj (i:=7) jT.nd rfl (.inl rfl) (kR (Qv jr (pv 2) (Qv jr (pv 3) (Qv jr (Ja jc) (Qv jr (Ja jc) (Qv jr (Ja jc) kW))))) rfl rfl (by simp) (by decide)))
  (jd (Jp PassesOwn.never rfl (Ji (Jb Qg (pv 0) (j9 jb) (j9 jb))) (jv (i:=8) jT.nd rfl (.inl rfl))
   (jd (jj (i:=9) jT.nd rfl (.inl rfl) (jo (jB.mono (by decide)) hr (by rfl) T.J0 T.Jv.kp T.JS .nil pass0 (ja (jh jJ (pv 8) (jh JP jb (jq jG (by rfl) T.Jr jW (ja (jw (jI hr) (pv 7) jr) jc)))) (ja jb jc))))
   (jg (Jt (PW.pt (yZ (jt ZN (jh jy (ji jp (pv 9) jb) jb) jb (nomark _)) (Zq (jt ZN (jq jG (by rfl) T.Jr jW (ja (jw (jI hr) (pv 7) jr) jc)) jb (nomark _)))))
    (jg (jD (jo (Qj.mono (by decide)) hr (by rfl) T.Z2 T.Q7.kp T.ZX .nil pass0 (ja (pv 7) (ja (pv 8) (ja (pv 9) jc))))))
    (jg (jD (jo (Jd.mono (by decide)) hr (by rfl) T.Ql T.qx.kp T.Qh .nil pass0 (ja (pv 7) (ja (pv 8) (ja (pv 9) jc))))))))))
  (jd (zR (jt (yX hr.units) (jw (jI hr) (pv 7) jr) (Ja jc) (nomark _))
   (jg (jD (jo (Jd.mono (by decide)) hr (by rfl) T.Ql T.qx.kp T.Qh .nil pass0 (ja (pv 7) (ja jb (ja (pv 1) jc))))))
   jM)
  (jg (jH (pv 7)))))))))),?_⟩
 refine jE (σ':=[some _,none,none,none,none,none,none,none,none,none]) rfl ?_;have sz:(200:Nat)<sizeLine:=by decide
 exists⟨a,ns,_,rfl,hS,h63,by omega,?_⟩;exists⟨_,_,rfl,by omega,by omega,fun p1 fs H1 s1 hp1 t1 l1 b1=>?_⟩;have B1:Big fs:=b1;exists⟨a,ns,_,rfl,s1.seq hS,h63,by omega,?_⟩;exists⟨_,68,rfl,by omega,fun p2 ws H2 s2 hp2 t2 l2 nd nw=>?_⟩;have s12:=s1.trans s2;have t12:=s2 _ _ t1;exists⟨Nat.zero_le _,?_⟩;walk_at"f pl hpl H3 s3 t3";have c0:=B1.cell (k:=0) (by omega) (by omega);have c9:=B1.cell (k:=9) (by omega) (by omega);exists ixLm (SqL.of (s3 _ _ t12)) (Pr.jF (by omega) (by omega)) ?_;exists⟨_,rfl,by omega,by omega,?_⟩;refine Jy (fun i σ H'=>∃(ls:List Addr) (lbs:List (Str×Int)) (o4 o5 o6:Option V),σ=[some (.ref a),some (.ref p1),some (.ref p2),some (.ref pl),o4,o5,o6,none,none,none]/\Same H2 H'/\H' pl=some (.lst (ls.map V.ref))/\All2 (LimbAt H') ls lbs/\lbs.length=i/\lbs.map (·.1)=(List.range i).map (lnm ws (Pr.cell fs 9))/\∀p∈lbs,0<=p.2/\p.2<=10^18)
  ⟨[],[],_,_,_,rfl,s3,t3,.nil,rfl,rfl,(fun z h=>nomatch h)⟩ ?_ ?_
 ·rintro i σ H' hi ⟨ls,lbs,o4,o5,o6,rfl,sm,el,al,ll,ln,lb⟩;have all:=al.1;have ck:=B1.cell (k:=1+(0+(i:Int))) (by omega) (by omega);exists ixLm (SqL.of (sm _ _ t12)) (Pr.jF (by omega) (by omega)) ?_;exists⟨(by show 3<=sizeLine;omega),?_⟩;walk_at"f 4 t";exists ixLm (SqL.of (s4 _ _ (sm _ _ t12))) (Pr.jF (by omega) (by omega)) ?_;exists ixLm (SqL.of t4) (KW (by omega) (by omega)) ?_;walk_at"g";have sm4:=sm.trans s4;refine⟨a,ns,_,rfl,sm4.seq (s12.seq hS),h63,by omega,?_⟩;exists⟨_,_,rfl,by omega,by omega,fun wn=>?_⟩;exists⟨.inl ⟨rfl,_,SqL.of (s4 _ _ el)⟩,?_⟩;walk_at"g";obtain⟨x0,x1,x2⟩:=xn (ws:=ws) (c:=Pr.cell fs 9) (i:=i) l2 (by omega) (by omega);refine ixLm (SqL.of (sm4 _ _ t2)) (Yd x0 x1) ?_;rw[x2];exists ixLm (SqL.of (sm4 _ _ t12)) (Pr.jF (by omega) (by omega)) ?_;exists⟨_,_,_,rfl,by omega,by omega,by omega,by omega,fun r r1 r2=>?_⟩;exists⟨(by show 2<=sizeLine;omega),?_⟩;walk_at"f 5 t";have s45:=s4.trans s5;have el5:=s45 _ _ el;exists⟨pl,_,_,rfl,rfl,el5,by rw[length_map];omega,?_⟩;have hne:p5≠pl:=qk t5 el5 (fun z=>by cases z);refine⟨ls++[p5],lbs++[(lnm ws (Pr.cell fs 9) i,r)],_,_,_,rfl,fun b u h=>?_,?_,?_,by rw[List.length_append,ll];rfl,?_,fun p hp=>?_⟩
  ·rw[jk (je h hpl)];exact s45 _ _ (sm _ _ h)
  ·rw[jf,map_append];rfl
  ·refine All2.snoc (al.mono fun b x h=>?_) ?_
   ·have h':H5 b=some (.tup [.str x.1,.int x.2]):=s45 _ _ h;exact(jk (qk h' el5 (fun z=>by cases z))).trans h'
   ·exact(jk hne).trans t5
  ·rw[map_append,ln,List.range_succ,map_append];rfl
  ·rcases mem_append.mp hp with e | e
   ·exact lb p e
   ·have e':p=(lnm ws (Pr.cell fs 9) i,r):=by simpa using e
    rw[e'];exact⟨r1,r2⟩
 rintro σ' H4 ⟨ls,lbs,o4,o5,o6,rfl,s4,el,al,ll,ln,lb⟩;exists kX ?_;walk_at"f r hr5 H5 s5 t5";exists⟨Nat.zero_le _,?_⟩;walk_at"f pp hpp H6 s6 t6";exists⟨Nat.zero_le _,?_⟩;walk_at"f ph hph H7 s7 t7";exists⟨Nat.zero_le _,?_⟩;walk_at"f pg hpg H8 s8 t8";exists⟨s8 _ _ (s7 _ _ (s6 _ _ t5)),[(Sum.inr "names",.ref p2),(Sum.inr "limbs",.ref pl),(Sum.inr "parts",.ref pp),(Sum.inr "hands",.ref ph),(Sum.inr "long",.ref pg)],rfl,(by show 5<=15;decide),?_⟩;generalize eH:upd H8 r _=H9;have d9:=KS eH;have k9:∀b u,b≠r->H8 b=some u->H9 b=some u:=fun b u hb h=>by rw[<-eH,jk hb];exact h
 clear eH;have n1:r≠pp:=je t5 hpp;have n2:r≠ph:=je (s6 _ _ t5) hph;have n3:r≠pg:=je (s7 _ _ (s6 _ _ t5)) hpg;have n4:pp≠ph:=je t6 hph;have n5:pp≠pg:=je (s7 _ _ t6) hpg;have n6:ph≠pg:=je t7 hpg;have s58:=s6.trans (s7.trans s8);have s48:=s5.trans s58;have s49:Same H4 H9:=fun b u h=>k9 b u (je h hr5) (s48 _ _ h)
 have offo:∀b u,H4 b=some u->b≠pp/\b≠ph/\b≠pg:=fun b u h=>⟨je (s5 _ _ h) hpp,je (s6 _ _ (s5 _ _ h)) hph,je (s7 _ _ (s6 _ _ (s5 _ _ h))) hpg⟩
 have e2:=s4 _ _ t2;obtain⟨z,hz⟩:∃z:Ra,z=⟨r,p2,pl,pp,ph,pg⟩:=⟨_,rfl⟩
 have R9:RoomAt H9 z ⟨ws,lbs,[],[],[]⟩:=by
  subst hz;exact⟨d9,s49 _ _ e2,⟨ls,s49 _ _ el,al.mono fun b x h=>s49 _ _ h⟩,⟨[],k9 _ _ n1.symm (s8 _ _ (s7 _ _ t6)),.nil⟩,⟨[],k9 _ _ n2.symm (s8 _ _ t7),.nil⟩,k9 _ _ n3.symm t8,offo _ _ e2,offo _ _ el,n4,n5,n6⟩
 have G9:Good ⟨ws,lbs,[],[],[]⟩:=by
  refine⟨l2,nd,nw,?_,?_,?_,fun p hp=>⟨?_,lb p hp⟩,rfl,rfl,fun i p hp=>by simp at hp⟩
  ·show 1<=lbs.length;omega
  ·show lbs.length<=8;omega
  ·show(lbs.map (·.1)).Nodup;rw[ln];exact xp l2 nd (by omega)
  ·exact xo (c:=Pr.cell fs 9) (n:=(1+Pr.cell fs 0%8).toNat) l2 (by omega) (by rw[<-ln];exact mem_map.mpr ⟨p,hp,rfl⟩)
 have zr:z.r=r:=by rw[hz]
 have zp:z.pp=pp:=by rw[hz]
 have zl:z.pl=pl:=by rw[hz]
 have off4:∀b u,H4 b=some u->z.off b:=fun b u h=>by subst hz;exact offo b u h
 have s04:=s12.trans s4;have t1':=s49 _ _ (s4 _ _ t12);have f1:z.off p1:=off4 _ _ (s4 _ _ t12);have npp:H pp=none:=none_of (s04.trans s5) hpp;have npl:H pl=none:=none_of s12 hpl;have s09:=s04.trans s49;have off0:∀b u,H b=some u->z.off b:=fun b u h=>off4 b u (s04 _ _ h)
 walk_at"g";rw[<-zr];refine⟨a,_,rfl,s09.seq hS,?_⟩;walk_at"f 10 t";have R10:=R9.keeps s10;have f10:=qt R9 hp10;have s010:=s09.trans s10;have t110:=s10 _ _ t1';clear t1' s49 off4 offo k9 d9 s48 s58 n1 n2 n3 n4 n5 n6 t5 t6 t7 t8 s5 s6 s7 s8;have hcl:=W4 (xs:=ns.map V.int);refine⟨p10,rfl,⟨_,SqL.of t10⟩,?_⟩;refine QQ (xs:=cutV (ns.map V.int) (some 2) (some 62)) (fun i σ H'=>∃(m:Rr) (o8 o9:Option V),σ=[some (.ref a),some (.ref p1),some (.ref p2),some (.ref pl),o4,o5,o6,some (.ref z.r),o8,o9]/\Rm.Kp z H10 H'/\RoomAt H' z m/\Good m/\m.parts.length=i)
  ⟨_,none,none,rfl,Rm.Kp.refl _ _,R10,G9,rfl⟩ ?_ ?_ ?_
 ·rintro i σ H' _ ⟨m,o8,o9,rfl,k,R,G,hm⟩;exact SqL.of (k _ _ f10 t10)
 ·rintro i x σ H' hx ⟨m,o8,o9,rfl,k,R,G,hm⟩;obtain⟨n,hn,rfl⟩:=Pr.Wk (mem_of_getElem? hx);have hi:=(List.getElem?_eq_some_iff.mp hx).1;obtain⟨qs,eq,aq⟩:=R.p;exists⟨_,_,rfl,jV R,?_⟩;exists⟨_,_,rfl,.inl ⟨_,SqL.of eq,rfl⟩,?_⟩;rw[length_map,aq.1,hm];exists⟨_,_,rfl,by omega,by omega,fun p11 gs H11 s11 hp11 t11 l11 b11=>?_⟩;have B11:Big gs:=b11;have g0:=B11.cell (k:=0) (by omega) (by omega);have R11:=R.keeps s11;have o11:=qt R hp11;have k11:=k.trans (Rm.Kp.of s11);exists ixLm (SqL.of t11) (Pr.jF (by omega) (by omega)) ?_;exists iteD (fun d1=>?_) (fun d1=>?_)
  ·exists⟨_,_,rfl,jV R11,?_⟩;exists⟨_,_,rfl,.inl ⟨_,SqL.of (s11 _ _ eq),rfl⟩,?_⟩;rw[length_map,aq.1,hm];exists iteD (fun d2=>?_) (fun d2=>?_)
   ·exists⟨z,m,n,p11,gs,rfl,R11,G,by omega,by omega,t11,o11,by omega,B11,fun m' H' k' R' G' hl'=>?_⟩;exact⟨m',_,_,rfl,k11.trans k',R',G',by omega⟩
   ·exists⟨z,m,n,p11,gs,rfl,R11,G,by omega,t11,o11,by omega,B11,fun m' H' k' R' G' hl'=>?_⟩;exact⟨m',_,_,rfl,k11.trans k',R',G',by omega⟩
  ·refine iteF ?_;exists⟨z,m,n,p11,gs,rfl,R11,G,by omega,t11,o11,by omega,B11,fun m' H' k' R' G' hl'=>?_⟩;exact⟨m',_,_,rfl,k11.trans k',R',G',by omega⟩
 rintro σ' H' ⟨m,o8,o9,rfl,k,R,G,hm⟩;have m61:m.parts.length<=60:=by omega
 have m62:=wX (xs:=ns.map V.int);rw[<-hm,length_map]at m62;exists⟨fun σ' H'=>∃(m:Rr) (o8 o9:Option V),σ'=[some (.ref a),some (.ref p1),some (.ref p2),some (.ref pl),o4,o5,o6,some (.ref z.r),o8,o9]/\Rm.Kp z H10 H'/\RoomAt H' z m/\Good m/\1<=m.parts.length/\(m.parts.length<=1\/m.parts.length+2<=ns.length),?_,?_⟩
 rotate_left
 ·obtain⟨qs,eq,aq⟩:=R.p;exists⟨_,_,rfl,jV R,?_⟩;exists⟨Nat.zero_le _,?_⟩;walk_at"f p12 hp12 H12 s12' t12'";have R12:=R.keeps s12';have k12:=k.trans (Rm.Kp.of s12');refine⟨_,_,DV.lst (s12' _ _ eq) (zB (fun _ _ h=>Wb (PartAt.same s12' h)) aq),W8 t12',(KI (G.bk (by omega))).ok (by decide),shp0,?_⟩;rw[Km];exists iteD (fun d1=>?_) (fun d1=>?_)
  ·exists⟨z,m,0,p1,fs,rfl,R12,G,by omega,k12 _ _ f1 t110,f1,by omega,B1,fun m' H' k' R' G' hl'=>?_⟩;have l0:m.parts.length=0:=by rw[d1];rfl
   exact⟨m',_,_,rfl,k12.trans k',R',G',by omega,.inl (by omega)⟩
  ·exists⟨m,_,_,rfl,k12,R12,G,?_,by omega⟩;cases hq:m.parts with
   | nil=>exact absurd hq d1
   | cons x y=>exact Nat.succ_le_succ (Nat.zero_le _)
 rintro σ' H' ⟨m,o8,o9,rfl,k,R,G,m1,m61⟩;walk_at"g";exact q z m H' (fun b u h=>k b u (off0 b u h) (s010 _ _ h)) R G m1 m61 (by rw[zl];exact npl) (by rw[zp];exact npp) off0
theorem ZG(T:Txt K mg t)(jO:FnOk P w K mg base CX0 1 t.qc t.qd ["_law_room_here","_law_form","_law_hands","_law_long"] (sp_add)):FnOk P w K mg base CX0 2 t.JU t.JX ["_law_room_here","_law_there_here"] (sp_joined):=by
 refine T.Qi.ok JG (fun vs H Q E h=>?_) (fun cdv A outer s H vs Q E hr h=>?_)
 ·cases h;subst_vars;rfl
 obtain⟨z,m,l,is,rfl,R,G,e5,i1,i8,hj,sm,ml,q⟩:=h;refine⟨_,(jd (jj (i:=2) JG.nd rfl (.inr rfl) (Ja jc))
  (jd (Jp PassesOwn.never rfl (Ji (pv 1)) (jv (i:=3) JG.nd rfl (.inl rfl))
   (jg (jj (i:=2) JG.nd rfl (.inr rfl) (jh kh (pv 2) (qR (ow:=["_law_hand"]) (ci:=[2]) rfl (CompScope.of (defScope JB) ["_law_room_here","_law_there_here","_law_hands","_law_one","_law_names_here"] rfl rfl (by decide +kernel)) (J2 (by decide)) (Ji (ji jp (jw (jI hr) (pv 0) jr) (pv 3))) (fun _ _ _ _ _=>⟨(jv (i:=0) (qp ["_law_room_here","_law_there_here","_law_hands","_law_one","_law_names_here"] rfl (by decide +kernel)) rfl (.inl rfl)),(ZO (jt (zb (K:=K) rfl) (pv 0) (pv 1) (by with_unfolding_all rfl))),(pv 0)⟩))))))
  (jd (jj (i:=4) JG.nd rfl (.inl rfl) (Jz qz (by rfl) T.zv QO (ja (qR (ow:=["_law_one"]) (ci:=[0]) rfl (CompScope.of (defScope JB) ["_law_room_here","_law_there_here","_law_hands","_law_one","_law_names_here"] rfl rfl (by decide +kernel)) (J2 (by decide)) (Ji (pv 1)) (fun _ _ _ _ _=>⟨(jv (i:=0) (qp ["_law_room_here","_law_there_here","_law_hands","_law_one","_law_names_here"] rfl (by decide +kernel)) rfl (.inl rfl)),QV,(ji (Zn (K:=K) rfl) (ji (Qu (K:=K) rfl) (jw (jI hr) (pv 1) jr) (pv 0)) jb)⟩)) jc)))
  (jg (jD (jo (jO.mono (by decide)) hr (by rfl) T.qg T.JC.kp T.qa .nil pass0 (ja (pv 0) (ja (j8 (ja jr (ja (pv 4) jc))) (ja (jq QD (by rfl) T.zu QZ (ja (pv 2) jc)) (ja (jq (zL rfl) (by rfl) T.KZ Y0 (ja (qR (ow:=["_law_one"]) (ci:=[0]) rfl (CompScope.of (defScope JB) ["_law_room_here","_law_there_here","_law_hands","_law_one","_law_names_here"] rfl rfl (by decide +kernel)) (J2 (by decide)) (Ji (pv 1)) (fun _ _ _ _ _=>⟨(jv (i:=0) (qp ["_law_room_here","_law_there_here","_law_hands","_law_one","_law_names_here"] rfl (by decide +kernel)) rfl (.inl rfl)),QV,(ji (Qu (K:=K) rfl) (jw (jI hr) (pv 1) jr) (pv 0))⟩)) jc)) jc)))))))))),?_⟩
 refine jE (σ':=[some _,some _,none,none,none]) rfl ?_;have sz:(200:Nat)<sizeLine:=by decide
 have nl:=G.nl;exists⟨Nat.zero_le _,fun p6 hp6=>?_⟩;have s6:=Pr.jn hp6 (.lst []);have e6:=Pr.jn hp6 (.lst []) _ _ e5;have t6:upd H p6 (.lst []) p6=some (.lst []):=jf;generalize upd H p6 (.lst [])=H6 at s6 e6 t6|-;walk_at"g";obtain⟨ha,eha,aha⟩:=R.h;refine⟨l,rfl,⟨_,SqL.of e6⟩,?_⟩;refine QQ (xs:=is.map vN) (fun i σ H'=>∃(h:Addr) (hs:List Int) (o6:Option V),σ=[some (.ref z.r),some (.ref l),some (.ref h),o6,none]/\Same H6 H'/\H' h=some (.lst (hs.map V.int))/\hs.length<=8*i/\hs.Nodup/\∀k,k∈hs↔∃j∈is.take i,k∈m.hd j)
  ⟨p6,[],none,rfl,Same.refl _,t6,Nat.zero_le _,.nil,fun k=>⟨(fun h=>nomatch h),fun⟨j,h,_⟩=>by simp at h⟩⟩ ?_ ?_ ?_
 ·rintro i σ H' _ ⟨h,hs,o6,rfl,sm7,th,hl8,hnd,hmem⟩;exact SqL.of (sm7 _ _ e6)
 ·rintro i x σ H' hx ⟨h,hs,o6,rfl,sm7,th,hl8,hnd,hmem⟩;obtain⟨j,hj1,rfl,hj2⟩:=ze hx;have hi:=(List.getElem?_eq_some_iff.mp hj1).1;have s7:=s6.trans sm7;have R7:=R.keeps s7;have hj8:=Y7 G (hj j hj2);obtain⟨a,ha1,ha2,ha3⟩:=Zm R G (hj j hj2) eha;have ha7:=s7 _ _ ha2;exists⟨_,_,rfl,Q0 R7,?_⟩;exists ixLm (SqL.of (s7 _ _ eha)) (QC (i:=(j:Int)) (by omega) ha1) ?_;refine⟨a,rfl,⟨_,SqL.of ha7⟩,?_⟩;refine Jk (xs:=(m.hd j).map V.int) (fun i ys H''=>ys=(((m.hd j).take i).filter fun k=>!decide (k∈hs)).map V.int/\H'=H'') ⟨rfl,rfl⟩ ?_ ?_ ?_
  ·rintro i ys H'' _ ⟨rfl,rfl⟩;exact SqL.of ha7
  ·rintro i x ys H'' hx ⟨rfl,rfl⟩;rw[List.getElem?_map]at hx;obtain⟨n,hn',rfl⟩:=Option.map_eq_some_iff.mp hx;refine qu (σ':=[none,some _]) rfl ?_;exists⟨h,_,rfl,.inl (SqL.of th),rfl,flats hs,?_⟩;rw[notInI];walk_at"g";have hle:(((m.hd j).take i).filter fun k=>!decide (k∈hs)).length<=8:=Nat.le_trans (length_filter_le _ _) (Nat.le_trans (List.length_take_le' _ _) hj8);refine iteN (fun d2=>?_) (fun d2=>?_)
   ·exists⟨by rw[length_map];omega,?_,rfl⟩;rw[take_snoc hn',filter_append,map_append,filter_cons,if_pos (by simpa using d2)];rfl
   ·refine⟨?_,rfl⟩;rw[take_snoc hn',filter_append,map_append,filter_cons,if_neg (by simpa using d2)];exact(append_nil _).symm
  ·rintro ys H'' ⟨rfl,rfl⟩;rw[show((m.hd j).map V.int).length=(m.hd j).length from length_map _,take_length];have hle:((m.hd j).filter fun k=>!decide (k∈hs)).length<=8:=Nat.le_trans (length_filter_le _ _) hj8;obtain⟨nd8,mem8⟩:=ZB hj1 hmem hnd (WR G (hj j hj2));generalize(m.hd j).filter (fun k=>!decide (k∈hs))=fs at hle nd8 mem8|-;refine⟨by rw[length_map];omega,fun p8 hp8=>?_⟩;have s8:=Pr.jn hp8 (.lst (fs.map V.int));have t8:upd H' p8 (.lst (fs.map V.int)) p8=some (.lst (fs.map V.int)):=jf;generalize upd H' p8 (.lst (fs.map V.int))=H8 at s8 t8|-;refine⟨h,p8,_,_,rfl,rfl,s8 _ _ th,t8,by rw[length_map,length_map];omega,fun p9 hp9=>?_⟩;have s9:=Pr.jn hp9 (.lst (hs.map V.int++fs.map V.int));have t9:upd H8 p9 (.lst (hs.map V.int++fs.map V.int)) p9=some (.lst ((hs++fs).map V.int)):=by rw[jf,map_append]
   generalize upd H8 p9 (.lst (hs.map V.int++fs.map V.int))=H9 at s9 t9|-;walk_at"g";exact⟨p9,hs++fs,_,rfl,sm7.trans (s8.trans s9),t9,by rw[List.length_append];omega,nd8,mem8⟩
 rintro σ' H7 ⟨h,hs,o6,rfl,sm7,th,hl8,hnd,hmem⟩;rw[show(is.map vN).length=is.length from length_map _]at hl8 hmem;rw[take_length]at hmem;have s7:=s6.trans sm7;have R7:=R.keeps s7;have e7:=sm7 _ _ e6;walk_at"g";obtain⟨qs,eqs,aqs⟩:=R7.p;have part_at:∀j∈is,∃a b,qs[j]?=some a/\H7 a=some (.tup [.str (m.nm j),.ref b]):=fun j hjm=>by
  obtain⟨a,ha,b,hb,_⟩:=aqs.get (List.getElem?_eq_getElem (hj j hjm));rw[(G.ps j _ (List.getElem?_eq_getElem (hj j hjm))).1]at hb;exact⟨a,b,ha,hb⟩
 refine⟨l,rfl,⟨_,SqL.of e7⟩,?_⟩;refine Jk (xs:=is.map vN) (fun i ys H'=>ys=((is.take i).map m.nm).map V.str/\H7=H') ⟨rfl,rfl⟩ ?_ ?_ ?_
 ·rintro i ys H' _ ⟨rfl,rfl⟩;exact SqL.of e7
 ·rintro i x ys H' hx ⟨rfl,rfl⟩;obtain⟨j,hj1,rfl,hj2⟩:=ze hx;have hi:=(List.getElem?_eq_some_iff.mp hj1).1;obtain⟨a,b,ha,hb⟩:=part_at j hj2;refine qu (σ':=[none,some _]) rfl ?_;exists iteT ?_;exists⟨_,_,rfl,jV R7,?_⟩;exists ixLm (SqL.of eqs) (QC (i:=(j:Int)) (by omega) ha) ?_;exists ixTm (SqT.of hb) rfl ?_;refine⟨by rw[length_map,length_map,length_take];omega,?_,rfl⟩;rw[take_snoc hj1,map_append,map_append];rfl
 rintro ys H' ⟨rfl,rfl⟩;rw[show(is.map vN).length=is.length from length_map _,take_length];refine⟨by rw[length_map,length_map];omega,fun p8 hp8=>?_⟩;have s8:=Pr.jn hp8 (.lst ((is.map m.nm).map V.str));have t8:upd H7 p8 (.lst ((is.map m.nm).map V.str)) p8=some (.lst ((is.map m.nm).map V.str)):=jf;generalize upd H7 p8 (.lst ((is.map m.nm).map V.str))=H8 at s8 t8|-;exists⟨p8,_,rfl,.inl ⟨SqL.of t8,fun p9 hp9=>?_⟩⟩;have s9:=Pr.jn hp9 (.tup ((is.map m.nm).map V.str));have t9:upd H8 p9 (.tup ((is.map m.nm).map V.str)) p9=some (.tup ((is.map m.nm).map V.str)):=jf;generalize upd H8 p9 (.tup ((is.map m.nm).map V.str))=H9 at s9 t9|-;have s79:=s8.trans s9;have e9:=s79 _ _ e7;have h9:=s79 _ _ th;have R9:=R7.keeps s79;have s09:=s7.trans s79;clear t8 s8 s9 hp8 hp9 part_at aqs eqs qs;have hk:=Yo G hj hmem;have hs8:hs.length<=8:=Nat.le_trans (Q2 hnd hk) G.l8;have e1:=G.hl;have e2:=G.gl;have sl:=y8 G hj;exists⟨(by show 2<=sizeLine;omega),fun p10 hp10=>?_⟩;have s10:=Pr.jn hp10 (.tup [.str "row",.ref p9]);have t10:upd H9 p10 (.tup [.str "row",.ref p9]) p10=some (.tup [.str "row",.ref p9]):=jf;generalize upd H9 p10 (.tup [.str "row",.ref p9])=H10 at s10 t10|-;have R10:=R9.keeps s10;exists⟨h,hs,rfl,SqL.of (s10 _ _ h9),Nat.lt_of_le_of_lt hs8 (by decide),fun p11 ms hp11 perm ord=>?_⟩;have s11:=Pr.jn hp11 (.lst (ms.map V.int));have t11:upd H10 p11 (.lst (ms.map V.int)) p11=some (.lst (ms.map V.int)):=jf;generalize upd H10 p11 (.lst (ms.map V.int))=H11 at s11 t11|-;have R11:=R10.keeps s11;have e11:=s11 _ _ (s10 _ _ e9);exists⟨l,rfl,⟨_,SqL.of e11⟩,?_⟩;refine Jk (xs:=is.map vN) (fun i ys H'=>ys=((is.take i).map m.lg).map V.int/\H11=H') ⟨rfl,rfl⟩ ?_ ?_ ?_
 ·rintro i ys H' _ ⟨rfl,rfl⟩;exact SqL.of e11
 ·rintro i x ys H' hx ⟨rfl,rfl⟩;obtain⟨j,hj1,rfl,hj2⟩:=ze hx;have hi:=(List.getElem?_eq_some_iff.mp hj1).1;refine qu (σ':=[none,some _]) rfl ?_;exists iteT ?_;exists⟨_,_,rfl,ZA R11,?_⟩;exists ixLm (SqL.of R11.g) (yO G (hj j hj2)) ?_;refine⟨by rw[length_map,length_map,length_take];omega,?_,rfl⟩;rw[take_snoc hj1,map_append,map_append];rfl
 rintro ys H' ⟨rfl,rfl⟩;rw[show(is.map vN).length=is.length from length_map _,take_length];refine⟨by rw[length_map,length_map];omega,?_⟩;walk_at"f 12 t";have R12:=R11.keeps s12;exists⟨_,_,rfl,SqL.of t12,?_⟩;exists⟨z,m,p10,p11,.row (is.map m.nm),ms,_,rfl,R12,⟨p9,s12 _ _ (s11 _ _ t10),s12 _ _ (s11 _ _ (s10 _ _ t9))⟩,⟨s12 _ _ t11,qt R10 hp11⟩,by omega,by omega,by omega,nl,fun H' k R' eh'=>?_⟩;walk_at"g";exact q ms _ ((Rm.Kp.of (s09.trans (s10.trans (s11.trans s12)))).trans k) R' (G.add ⟨⟨is,⟨rfl,hj⟩,i1,i8,fun k=>perm.mem_iff.trans (hmem k),rfl⟩,fun k h=>hk k (perm.mem_iff.mp h),zU perm hnd ord,by omega,sm⟩) fun p u hp aw hs' e hm=>by
  have sA:=s09.trans (s10.trans (s11.trans s12));rw[eh' ha (sA _ _ eha)]at e;injection e with e;injection e with e;have e2:hs'=ha++[p11]:=(ZR e).symm;rw[e2]at hm;rcases mem_append.mp hm with hm | hm
  ·exact aw ha eha hm
  ·rw[mem_singleton.mp hm,none_of (s09.trans s10) hp11]at hp;cases hp
theorem zP(T:Txt K mg t)(jz:FnOk P w K mg base CX0 1 t.j5 t.j6 ["_law_script","_law_k"] (Pr.sp_cell_at K))(ju:FnOk P w K mg base CX0 1 t.jQ t.jR ["_law_cell","_law_turn"] (qV))(jB:FnOk P w K mg base CX0 1 t.jY t.jZ ["_law_cell","_law_many"] (Ws.Qx))(QN:FnOk P w K mg base CX0 4 t.qH t.qJ ["_law_script"] (sp_roomB K))(qy:FnOk P w K mg base CX0 2 t.JU t.JX ["_law_room_here","_law_there_here"] (sp_joined)):FnOk P w K mg base CX0 5 t.Jq t.Js ["_law_script"] (sp_roomT K):=by
 refine T.QJ.ok Jm (fun vs H Q E h=>?_) (fun cdv A outer s H vs Q E hr h=>?_)
 ·cases h;subst_vars;rfl
 obtain⟨a,ns,rfl,hS,h63,q⟩:=h;refine⟨_,(jd (jj (i:=1) Jm.nd rfl (.inr rfl) (jo (QN.mono (by decide)) hr (by rfl) T.Yq T.zX.kp T.Yb .nil pass0 (ja (Jb Qg (pv 0) qD (j9 jb)) jc)))
  (jd (Zp (i:=2) (ow:=["_law_k"]) (ci:=[1]) rfl (CompScope.of (defScope J3) ["_law_script","_law_room_here","_law_there_here","_law_rows","_law_first"] rfl rfl (by decide +kernel)) (J2 (by decide)) Jm.nd rfl (.inl rfl) (JA (by rfl) T.JL (ja (jq jG (by rfl) T.Jr jW (ja (jw (jI hr) (pv 1) jr) jc)) jc)) (fun _ _ _ _ _=>⟨(jv (i:=0) (qp ["_law_script","_law_room_here","_law_there_here","_law_rows","_law_first"] rfl (by decide +kernel)) rfl (.inl rfl)),(ZO (jt xP (ji (Qu (K:=K) rfl) (jw (jI hr) (pv 1) jr) (pv 0)) (jh qM jb jb) (nomark _))),(pv 0)⟩))
  (jd (Jt (PW.pt (WW (jt JR (jh jy (ji jp (jo (jB.mono (by decide)) hr (by rfl) T.J0 T.Jv.kp T.JS .nil pass0 (ja (jh jJ (jo (ju.mono (by decide)) hr (by rfl) T.Jg T.jX.kp T.Jc .nil pass0 (ja (jo (jz.mono (by decide)) hr (by rfl) T.Jl T.j4.kp T.Jj .nil pass0 (ja (pv 0) (ja jb jc))) (ja jb jc))) jb) (ja jb jc))) jb) jb) jb (nomark _)) (wH (jt (yX hr.units) (pv 2) (Ja jc) (nomark _)))))
   (jg (jH (pv 1)))
   jM)
  (jd (jj (i:=3) Jm.nd rfl (.inl rfl) (Ja jc))
  (jd (Jp PassesOwn.never rfl (Kz (by rfl) T.JL (ja jb (ja (jq jG (by rfl) T.Jr jW (ja (pv 2) jc)) (ja jb jc)))) (jv (i:=4) Jm.nd rfl (.inl rfl))
   (jd (jD (qO PySem.F.plainAttrs_list PySem.F.slot_list_append PySem.F.type_list_append jP (pv 3) (ja (jq jG (by rfl) T.Jr jW (ja (jw (jI hr) (pv 1) jr) jc)) jc)))
   (jg (jD (jo (qy.mono (by decide)) hr (by rfl) T.za T.Qi.kp T.Q6 .nil pass0 (ja (pv 1) (ja (Jb Qg (pv 2) (j9 (pv 4)) (j9 (jh jJ (pv 4) jb))) jc)))))))
  (jd (zR (jt ZN (jq jG (by rfl) T.Jr jW (ja (pv 3) jc)) jb (nomark _))
   (jg (jD (jo (qy.mono (by decide)) hr (by rfl) T.za T.Qi.kp T.Q6 .nil pass0 (ja (pv 1) (ja (pv 3) jc)))))
   jM)
  (jg (jH (pv 1))))))))),?_⟩
 refine jE (σ':=[some _,none,none,none,none]) rfl ?_;have sz:(200:Nat)<sizeLine:=by decide
 exists⟨a,_,rfl,hS,fun p1 hp1=>?_⟩;rw[show(48:Int)=((48:Nat):Int)from rfl,W6,<-map_take];have s1:=Pr.jn hp1 (.lst ((ns.take 48).map V.int));have t1:upd H p1 (.lst ((ns.take 48).map V.int)) p1=some (.lst ((ns.take 48).map V.int)):=jf;generalize upd H p1 (.lst ((ns.take 48).map V.int))=H1 at s1 t1|-;have l48:(ns.take 48).length<=48:=by rw[length_take];omega
 exists⟨p1,ns.take 48,rfl,SqL.of t1,by omega,fun z m H2 s2 R G m1 mB npl npp off=>?_⟩;have n46:m.parts.length<=46:=by omega
 have s12:=s1.trans s2;obtain⟨qs,eq,aq⟩:=R.p;exists⟨_,_,rfl,jV R,?_⟩;exists⟨_,_,rfl,.inl ⟨_,SqL.of eq,rfl⟩,?_⟩;rw[length_map,aq.1];exists⟨_,rfl,by omega,by omega,?_⟩;refine Y6 (fun i ys H'=>∃is:List Nat,ys=is.map vN/\is.length<=i/\(∀j∈is,j<m.parts.length/\m.lg j<=10^55)/\H2=H') ⟨[],rfl,Nat.zero_le _,(fun j h=>nomatch h),rfl⟩ ?_ ?_
 ·rintro i ys H' hi ⟨is,rfl,il,hj,rfl⟩;have e0:(0:Int)+(i:Nat)=(i:Nat):=Int.zero_add _;rw[e0];refine qu (σ':=[none,some _]) rfl ?_;exists⟨_,_,rfl,ZA R,?_⟩;exists ixLm (SqL.of R.g) (yO G (by omega)) ?_;exists pow55 ?_;exists iteD (fun d1=>?_) (fun d1=>?_)
  ·exists⟨by rw[length_map];omega,is++[i],by rw[map_append];rfl,by rw[List.length_append,length_singleton];omega,fun j h=>?_,rfl⟩;rcases mem_append.mp h with h | h
   ·exact hj j h
   ·rw[mem_singleton.mp h];exact⟨by omega,d1⟩
  ·exact⟨is,rfl,by omega,hj,rfl⟩
 rintro ys H' ⟨is,rfl,il,hj,rfl⟩;refine⟨by rw[length_map];omega,?_⟩;walk_at"f 3 t";have R3:=R.keeps s3;exists⟨a,ns,_,rfl,(s12.trans s3).seq hS,h63,by omega,?_⟩;exists⟨_,_,rfl,by omega,by omega,fun wn=>?_⟩;exists⟨_,_,rfl,by omega,by omega,fun p4 fs H4 s4 hp4 t4 l4 b4=>?_⟩;have B4:Big fs:=b4;have c0:=B4.cell (k:=0) (by omega) (by omega);exists ixLm (SqL.of t4) (Pr.jF (by omega) (by omega)) ?_;walk_at"g";have s34:=s3.trans s4;have s24:=s12.trans s34;have R4:=R.keeps s34;refine iteD (fun d1=>?_) (fun d1=>?_)
 ·refine iteT ?_;walk_at"g";exact q z m H4 s24 R4 G m1 (by omega) (none_of s1 npl) (none_of s1 npp)
 exists⟨Nat.zero_le _,?_⟩;walk_at"f 5 t";have t35:=s5 _ _ (s4 _ _ t3);refine⟨_,_,.lst (by rw[WK]at t35;exact t35) (kI _),.lst t5 .nil,?_,?_,?_⟩
 ·exact(Shp.lst (n:=0) fun d hd=>by obtain⟨k,_,rfl⟩:=mem_map.mp hd;exact Shp.int).ok (by decide)
 ·exact shp0
 rw[Wc];have R5:=R4.keeps s5;have s05:=s24.trans s5;exists iteD (fun d2=>?_) (fun d2=>?_)
 ·walk_at"g";exact q z m H5 s05 R5 G m1 (by omega) (none_of s1 npl) (none_of s1 npp)
 have i1:1<=is.length:=by
  cases is with
  | nil=>exact absurd rfl d2
  | cons x r=>exact Nat.succ_le_succ (Nat.zero_le _)
 exists⟨Nat.zero_le _,?_⟩;walk_at"f 6 t";have R6:=R5.keeps s6;have o6:=qt R5 hp6;have o3:=qt R hp3;have t36:=s6 _ _ t35;have n36:p3≠p6:=je t35 hp6;exists WE ?_;exists⟨_,_,rfl,.inl ⟨_,SqL.of t36,rfl⟩,?_⟩;rw[length_map];exists⟨is.length,rfl,by omega,?_⟩;have aw6:Away H6 z p6:=fun hs e hm=>by
  obtain⟨hs',e',a'⟩:=R5.h;rw[s6 _ _ e']at e;injection e with e;injection e with e;rw[<-ZR e]at hm;obtain⟨k,hk,ek⟩:=mem_iff_getElem.mp hm;have:=a'.1;have h:=(a'.2 k _ _ (List.getElem?_eq_getElem hk) (List.getElem?_eq_getElem (by omega))).1;rw[ek,hp6]at h;cases h
 have n6n:p6≠z.pn:=fun e=>by rw[e,R5.n]at hp6;cases hp6
 have n6l:p6≠z.pl:=fun e=>by obtain⟨ls,e1,_⟩:=R5.l;rw[e,e1]at hp6;cases hp6
 refine xa (fun i σ H'=>∃(o4:Option V) (m':Rr),σ=[some (.ref a),some (.ref z.r),some (.ref p3),some (.ref p6),o4]/\(∀b u,z.off b->b≠p6->H6 b=some u->H' b=some u)/\RoomAt H' z m'/\Away H' z p6/\Good m'/\Jo m m.parts.length i m'/\H' p6=some (.lst (((List.range i).map fun k=>m.parts.length+k).map vN)))
  ⟨_,m,rfl,fun b u _ _ h=>h,R6,aw6,G,⟨rfl,fun j _=>rfl,fun j h1 h2=>absurd h2 (by omega)⟩,t6⟩ ?_ ?_
 ·rintro i σ H' hi ⟨o4,m',rfl,kp,R',aw',G',J,e6⟩;have i8:8*i<is.length:=by omega
  have ln:=J.ln;obtain⟨qs',eq',aq'⟩:=R'.p;have ql:=aq'.1;exists⟨.inl ⟨rfl,_,SqL.of e6⟩,?_⟩;exists⟨_,_,rfl,jV R',?_⟩;exists⟨_,_,rfl,.inl ⟨_,SqL.of eq',rfl⟩,?_⟩;rw[length_map,ql,ln];exists⟨p6,_,_,rfl,rfl,e6,by rw[length_map,length_map,length_range];omega,?_⟩;generalize e7:upd H' p6 _=H7;have t7:H7 p6=some (.lst (((List.range (i+1)).map fun k=>m.parts.length+k).map vN)):=by
   rw[<-e7,jf,List.range_succ,map_append,map_append];rfl
  have k7:∀b u,b≠p6->H' b=some u->H7 b=some u:=fun b u n h=>e7▸(jk n).trans h
  have h7:H7 z.ph=H' z.ph:=e7▸jk (Ne.symm o6.2.1);clear e7;have R7:=R'.but aw' e6 o6 n6n n6l k7;have aw7:Away H7 z p6:=fun hs e=>aw' hs (h7▸e)
  have t37:=k7 _ _ n36 (kp _ _ o3 n36 t36);exists⟨p3,_,rfl,SqL.of t37,fun p8 hp8=>?_⟩;rw[xG i8];have s8:=Pr.jn hp8 (.lst (((is.drop (8*i)).take 8).map vN));have t8:upd H7 p8 (.lst (((is.drop (8*i)).take 8).map vN)) p8=some (.lst (((is.drop (8*i)).take 8).map vN)):=jf;have h8:upd H7 p8 (.lst (((is.drop (8*i)).take 8).map vN)) z.ph=H7 z.ph:=jk (Ne.symm (qt R7 hp8).2.1);generalize upd H7 p8 (.lst (((is.drop (8*i)).take 8).map vN))=H8 at s8 t8 h8|-;have hsub:∀j∈(is.drop (8*i)).take 8,j<m.parts.length/\m.lg j<=10^55:=fun j h=>hj j (mem_of_mem_drop (mem_of_mem_take h))
  have hlen:((is.drop (8*i)).take 8).length<=8:=by rw[length_take];omega
  have hpos:1<=((is.drop (8*i)).take 8).length:=by rw[length_take,length_drop];omega
  generalize(is.drop (8*i)).take 8=js at t8 hsub hlen hpos;have sum8:=y6 (m:=m') (c:=10^55) (is:=js) fun x hx=>by rw[J.lo x (hsub x hx).1];exact(hsub x hx).2
  have aw8:Away H8 z p6:=fun hs e=>aw7 hs (h8▸e)
  exists⟨z,m',p8,js,rfl,R7.keeps s8,G',t8,hpos,hlen,fun j h=>by have:=(hsub j h).1;omega,by omega,by omega,fun ks H9 k9 R9 G9 aw9=>?_⟩;have p68:H8 p6=some _:=s8 _ _ t7;exact⟨_,_,rfl,fun b u o n h=>k9 _ _ o (s8 _ _ (k7 _ _ n (kp _ _ o n h))),R9,aw9 _ _ p68 aw8,G9,J.add G' hlen hsub,k9 _ _ o6 p68⟩
 rintro σ H' ⟨o4,m',rfl,kp,R',aw',G',J,e6⟩;have ln:=J.ln;have offH:∀b u,H b=some u->z.off b/\b≠p6:=fun b u h=>⟨off b u (s1 _ _ h),je (s05 _ _ h) hp6⟩
 have sH:Same H H':=fun b u h=>kp _ _ (offH b u h).1 (offH b u h).2 (s6 _ _ (s05 _ _ h))
 have rl:((List.range ((is.length+7)/8)).map fun k=>m.parts.length+k).length=(is.length+7)/8:=by rw[length_map,length_range]
 have r6:(is.length+7)/8<=6:=by omega
 refine⟨fun σ' H'=>∃(m':Rr),σ'=[some (.ref a),some (.ref z.r),some (.ref p3),some (.ref p6),o4]/\Same H H'/\RoomAt H' z m'/\Good m'/\1<=m'.parts.length/\m'.parts.length<=60,?_,?_⟩
 rotate_left
 ·exists⟨_,_,rfl,.inl ⟨_,SqL.of e6,rfl⟩,?_⟩;rw[length_map,rl];exists iteD (fun d3=>?_) (fun d3=>?_)
  ·have hk:∀j∈(List.range ((is.length+7)/8)).map (fun k=>m.parts.length+k),j<m'.parts.length/\m'.lg j<=8*10^55:=fun j h=>by
    obtain⟨k,hk,rfl⟩:=mem_map.mp h;have:=mem_range.mp hk;exact⟨by omega,J.hi _ (by omega) (by omega)⟩
   have sm:=y6 (m:=m') (c:=8*10^55) (is:=(List.range ((is.length+7)/8)).map fun k=>m.parts.length+k) fun x hx=>(hk x hx).2
   rw[rl]at sm;exists⟨z,m',p6,_,rfl,R',G',e6,by rw[rl];omega,by rw[rl];omega,fun j h=>(hk j h).1,by omega,by omega,fun ks H9 k9 R9 G9 _=>?_⟩;exact⟨_,rfl,fun b u h=>k9 _ _ (offH b u h).1 (sH _ _ h),R9,G9,by unfold addJ;rw[qP];omega,by unfold addJ;rw[qP];omega⟩
  ·walk_at"g";exact⟨m',rfl,sH,R',G',by omega,by omega⟩
 rintro σ' H9 ⟨m9,rfl,s9,R9,G9,l1,l60⟩;walk_at"g";exact q z m9 H9 s9 R9 G9 l1 l60 (none_of s1 npl) (none_of s1 npp)
theorem Zh(T:Txt K mg t):FnOk P w K mg base CX0 1 t.JD t.JE ["_law_form","_law_names_here","_law_some"] (sp_renamed):=by
 refine T.QK.ok Ju (fun vs H Q E h=>?_) (fun cdv A outer s H vs Q E hr h=>?_)
 ·cases h;subst_vars;rfl
 obtain⟨b,d,l,p,R,G,ns,rfl,hf,p8,hd,hl,n8,n0,hN,q⟩:=h;refine⟨_,(jd (Jt (jt JR (ji jC (pv 0) jb) jr (nomark _))
   (jd (jj (i:=3) Ju.nd rfl (.inl rfl) (jw (jI hr) (pv 1) (ji jC (pv 0) jb)))
   (jg (jH (j8 (ja (ji jC (pv 0) jb) (ja (ji jC (pv 0) jb) (ja (ji jp (pv 3) (jh jy (ji jp (pv 2) jb) (jq jG (by rfl) T.Jr jW (ja (pv 3) jc)))) jc)))))))
   jM)
  (jd (Jt (PW.pt (WW (jt JR (ji jC (pv 0) jb) jr (nomark _)) (wH (jt JR (ji jC (pv 0) jb) jr (nomark _)))))
   (jd (jj (i:=4) Ju.nd rfl (.inl rfl) (Ja jc))
   (jd (Jp PassesOwn.never rfl (JA (by rfl) T.JL (ja (jq jG (by rfl) T.Jr jW (ja (ji jC (pv 0) jb) jc)) jc)) (jv (i:=5) Ju.nd rfl (.inl rfl))
    (jd (jj (i:=3) Ju.nd rfl (.inl rfl) (jw (jI hr) (pv 1) (ji jC (ji jC (pv 0) jb) (pv 5))))
    (jg (jD (qO PySem.F.plainAttrs_list PySem.F.slot_list_append PySem.F.type_list_append jP (pv 4) (ja (ji jp (pv 3) (jh jy (ji jp (pv 2) (pv 5)) (jq jG (by rfl) T.Jr jW (ja (pv 3) jc)))) jc))))))
   (jg (jH (j8 (ja (ji jC (pv 0) jb) (ja (Jz qz (by rfl) T.zv QO (ja (pv 4) jc)) jc)))))))
   jM)
  (jg (jH (pv 0))))),?_⟩
 refine jE (σ':=[some _,some _,some _,none,none,none]) rfl ?_;have sz:(200:Nat)<sizeLine:=by decide
 cases p with
 | hold n=>
  have h1:H b=some (.tup [.str "hold",.int n]):=hf;exists ixTm (SqT.of h1) rfl ?_;exists iteE0 ?_;exists ixTm (SqT.of h1) rfl ?_;exists iteE0 ?_;exists ixTm (SqT.of h1) rfl ?_;exists iteE0 ?_;walk_at"g";exact q b (.hold n) H (Same.refl _) h1 rfl
 | ring x n=>
  have h1:H b=some (.tup [.str "ring",.str x,.int n]):=hf;exists ixTm (SqT.of h1) rfl ?_;exists iteE0 ?_;exists ixTm (SqT.of h1) rfl ?_;exists iteE0 ?_;exists ixTm (SqT.of h1) rfl ?_;exists iteE0 ?_;walk_at"g";exact q b (.ring x n) H (Same.refl _) h1 rfl
 | rise x v n=>
  have h1:H b=some (.tup [.str "raise",.str x,.int v,.int n]):=hf;exists ixTm (SqT.of h1) rfl ?_;exists iteE0 ?_;exists ixTm (SqT.of h1) rfl ?_;exists iteE0 ?_;exists ixTm (SqT.of h1) rfl ?_;exists iteE0 ?_;walk_at"g";exact q b (.rise x v n) H (Same.refl _) h1 rfl
 | row xs=>
  obtain⟨c,h1,h2⟩:=hf;exists ixTm (SqT.of h1) rfl ?_;exists iteE0 ?_;exists ixTm (SqT.of h1) rfl ?_;exists iteE1 ?_;have xl:xs.length<=8:=p8;exists⟨Nat.zero_le _,?_⟩;walk_at"f 1 t";exists ixTm (SqT.of (s1 _ _ h1)) rfl ?_;exists⟨_,_,rfl,.inr ⟨_,SqT.of (s1 _ _ h2),rfl⟩,?_⟩;rw[length_map];exists⟨_,rfl,by omega,by omega,?_⟩;refine Jy (fun i σ H'=>∃(o3 o5:Option V) (ys:List Str),σ=[some (.ref b),some (.ref d),some (.ref l),o3,some (.ref p1),o5]/\Same H H'/\H' p1=some (.lst (ys.map V.str))/\ys.length=i/\∀(j:Nat) (x y:Str),xs[j]?=some x->ys[j]?=some y->R x y)
   ⟨_,_,[],rfl,s1,t1,rfl,fun j x y _ h=>by simp at h⟩ ?_ ?_
  ·rintro i σ H' hi ⟨o3,o5,ys,rfl,sm,e1,yl,hr⟩;have hi:i<xs.length:=by omega
   rw[show(0:Int)+(i:Nat)=(i:Nat)from Int.zero_add _];have hx:xs[i]?=some xs[i]:=List.getElem?_eq_getElem hi;obtain⟨a,ws,v1,v2,w1,w2,w3⟩:=hN xs[i] (getElem_mem hi);exists ixTm (SqT.of (sm _ _ h1)) rfl ?_;exists ixTm (SqT.of (sm _ _ h2)) (Jn (j:=i) (by rw[List.getElem?_map,hx];rfl)) ?_;have g:=DGet.k (k:=Sum.inr xs[i]) (sm _ _ hd);rw[v1]at g;refine⟨d,_,rfl,g,?_⟩;exists⟨.inl ⟨rfl,_,SqL.of e1⟩,?_⟩;have hn:ns[i]?=some ns[i]:=List.getElem?_eq_getElem (by omega);exists ixLm (SqL.of (sm _ _ hl)) (Jn (j:=i) (by rw[List.getElem?_map,hn];rfl)) ?_;exists⟨_,_,rfl,.inl ⟨_,SqL.of (sm _ _ v2),rfl⟩,?_⟩;rw[length_map];walk_at"g";obtain⟨y,hy,ey⟩:=pick (n:=ns[i]) w1;refine ixLm (SqL.of (sm _ _ v2)) (ey) ?_;exists⟨p1,_,_,rfl,rfl,e1,by rw[length_map];omega,?_⟩;refine⟨_,_,ys++[y],rfl,Ws.Qw sm hp1,by rw[jf,map_append];rfl,by rw[List.length_append,yl];rfl,YL hr (by rw[yl];exact hx) (w3 y hy)⟩
  ·rintro σ H' ⟨o3,o5,ys,rfl,sm,e1,yl,hr⟩;exists ixTm (SqT.of (sm _ _ h1)) rfl ?_;exists⟨p1,_,rfl,.inl ⟨SqL.of e1,?_⟩⟩;walk_at"f 3 t";exists⟨by show 2<=sizeLine;omega,?_⟩;walk_at"f 4 t";exact q p4 (.row ys) H4 (sm.trans (s3.trans s4)) ⟨p3,t4,s4 _ _ t3⟩ ⟨ys,rfl,by omega,hr⟩
 | side xs=>
  obtain⟨c,h1,h2⟩:=hf;exists ixTm (SqT.of h1) rfl ?_;exists iteE0 ?_;exists ixTm (SqT.of h1) rfl ?_;exists iteE0 ?_;exists ixTm (SqT.of h1) rfl ?_;exists iteE1 ?_;have xl:xs.length<=8:=p8;exists⟨Nat.zero_le _,?_⟩;walk_at"f 1 t";exists ixTm (SqT.of (s1 _ _ h1)) rfl ?_;exists⟨_,_,rfl,.inr ⟨_,SqT.of (s1 _ _ h2),rfl⟩,?_⟩;rw[length_map];exists⟨_,rfl,by omega,by omega,?_⟩;refine Jy (fun i σ H'=>∃(o3 o5:Option V) (ys:List Str),σ=[some (.ref b),some (.ref d),some (.ref l),o3,some (.ref p1),o5]/\Same H H'/\H' p1=some (.lst (ys.map V.str))/\ys.length=i/\∀(j:Nat) (x y:Str),xs[j]?=some x->ys[j]?=some y->R x y)
   ⟨_,_,[],rfl,s1,t1,rfl,fun j x y _ h=>by simp at h⟩ ?_ ?_
  ·rintro i σ H' hi ⟨o3,o5,ys,rfl,sm,e1,yl,hr⟩;have hi:i<xs.length:=by omega
   rw[show(0:Int)+(i:Nat)=(i:Nat)from Int.zero_add _];have hx:xs[i]?=some xs[i]:=List.getElem?_eq_getElem hi;obtain⟨a,ws,v1,v2,w1,w2,w3⟩:=hN xs[i] (getElem_mem hi);exists ixTm (SqT.of (sm _ _ h1)) rfl ?_;exists ixTm (SqT.of (sm _ _ h2)) (Jn (j:=i) (by rw[List.getElem?_map,hx];rfl)) ?_;have g:=DGet.k (k:=Sum.inr xs[i]) (sm _ _ hd);rw[v1]at g;refine⟨d,_,rfl,g,?_⟩;exists⟨.inl ⟨rfl,_,SqL.of e1⟩,?_⟩;have hn:ns[i]?=some ns[i]:=List.getElem?_eq_getElem (by omega);exists ixLm (SqL.of (sm _ _ hl)) (Jn (j:=i) (by rw[List.getElem?_map,hn];rfl)) ?_;exists⟨_,_,rfl,.inl ⟨_,SqL.of (sm _ _ v2),rfl⟩,?_⟩;rw[length_map];walk_at"g";obtain⟨y,hy,ey⟩:=pick (n:=ns[i]) w1;refine ixLm (SqL.of (sm _ _ v2)) (ey) ?_;exists⟨p1,_,_,rfl,rfl,e1,by rw[length_map];omega,?_⟩;refine⟨_,_,ys++[y],rfl,Ws.Qw sm hp1,by rw[jf,map_append];rfl,by rw[List.length_append,yl];rfl,YL hr (by rw[yl];exact hx) (w3 y hy)⟩
  ·rintro σ H' ⟨o3,o5,ys,rfl,sm,e1,yl,hr⟩;exists ixTm (SqT.of (sm _ _ h1)) rfl ?_;exists⟨p1,_,rfl,.inl ⟨SqL.of e1,?_⟩⟩;walk_at"f 3 t";exists⟨by show 2<=sizeLine;omega,?_⟩;walk_at"f 4 t";exact q p4 (.side ys) H4 (sm.trans (s3.trans s4)) ⟨p3,t4,s4 _ _ t3⟩ ⟨ys,rfl,by omega,hr⟩
 | again k x=>
  have h1:H b=some (.tup [.str "again",.int k,.str x]):=hf;obtain⟨a,ws,e1,e2,w1,w2,w3⟩:=hN x mem_cons_self;exists ixTm (SqT.of h1) rfl ?_;exists iteE1 ?_;exists ixTm (SqT.of h1) rfl ?_;have g:=DGet.k (k:=Sum.inr x) hd;rw[e1]at g;refine⟨d,_,rfl,g,?_⟩;exists ixTm (SqT.of h1) rfl ?_;exists ixTm (SqT.of h1) rfl ?_;obtain⟨n,r,rfl⟩:∃n r,ns=n::r:=by cases ns with
   | nil=>cases n8
   | cons n r=>exact⟨n,r,rfl⟩
  have hn0:=n0 n mem_cons_self;exists ixLm (SqL.of hl) (by rw[map_cons];exact at0) ?_;exists⟨_,_,rfl,.inl ⟨_,SqL.of e2,rfl⟩,?_⟩;rw[length_map];walk_at"g";obtain⟨y,hy,ey⟩:=pick (n:=n) w1;refine ixLm (SqL.of e2) (ey) ?_;exists⟨by show 3<=sizeLine;omega,?_⟩;walk_at"f 4 t";exact q p4 (.again k y) H4 s4 t4 ⟨y,rfl,w3 y hy⟩
theorem yU(T:Txt K mg t):FnOk P w K mg base CX0 1 t.qG t.qI ["_law_parts"] (sp_free):=by
 refine T.zW.ok qU (fun vs H Q E h=>?_) (fun cdv A outer s H vs Q E hr h=>?_)
 ·cases h;subst_vars;rfl
 obtain⟨pp,pas,ps,rfl,hp,pa,p61,q⟩:=h;refine⟨_,(jd (Zp (i:=1) (ow:=["_law_name","_law_form"]) (ci:=[]) rfl (CompScope.of (defScope Qe) ["_law_parts","_law_used","_law_free_here"] rfl rfl (by decide +kernel)) (We (by decide) (by decide)) qU.nd rfl (.inl rfl) (Ji (pv 0)) (fun _ _ _ _ _=>⟨(ZP rfl (J1 (jv (i:=0) (qp ["_law_parts","_law_used","_law_free_here"] rfl (by decide +kernel)) rfl (.inl rfl)) (J1 (jv (i:=1) (qp ["_law_parts","_law_used","_law_free_here"] rfl (by decide +kernel)) rfl (.inl rfl)) zG))),(ZO (jt JR (ji (Zn (K:=K) rfl) (pv 1) jb) jr (nomark _))),(ji (Zn (K:=K) rfl) (pv 1) jb)⟩))
  (jd (jj (i:=2) qU.nd rfl (.inl rfl) (jh qM jb jb))
  (jd (wG PassesOwn.never (jt zQ (pv 2) (pv 1) (by with_unfolding_all rfl))
   (jg (jj (i:=2) qU.nd rfl (.inl rfl) (jh Qm (pv 2) jb))))
  (jg (jH (pv 2)))))),?_⟩
 refine jE (σ':=[some _,none,none]) rfl ?_;have sz:(200:Nat)<sizeLine:=by decide
 have pl:=pa.1;exists⟨pp,rfl,⟨_,SqL.of hp⟩,?_⟩;refine Jk (xs:=pas.map V.ref) (fun i ys H'=>∃ks:List Int,ys=ks.map V.int/\ks.length<=i/\(∀n:Int,n∉ks->∀p∈ps.take i,p.2≠.hold n)/\H=H') ⟨[],rfl,Nat.zero_le _,(fun n _ p h=>by simp at h),rfl⟩ ?_ ?_ ?_
 ·rintro i ys H' _ ⟨ks,rfl,_,_,rfl⟩;exact SqL.of hp
 ·rintro i x ys H' hx ⟨ks,rfl,kl,hk,rfl⟩;obtain⟨a,p,rfl,hpi,fb,hat,hf⟩:=pa.at_ref hx;have hi:=(List.getElem?_eq_some_iff.mp hpi).1;refine qu (σ':=[none,none]) rfl ?_;obtain⟨nm,fm⟩:=p;exists ZQ (SqT.of hat) ?_;walk_at"g";have no:(∀n,fm≠.hold n)->∃ks':List Int,ks.map V.int=ks'.map V.int/\ks'.length<=i+1/\(∀n:Int,n∉ks'->∀p∈ps.take (i+1),p.2≠.hold n)/\H=H:=fun h=>⟨ks,rfl,by omega,yn hk hpi (fun n z=>z) (fun n e=>absurd e (h n)),rfl⟩
  cases fm with
  | hold n=>
   have h1:H fb=some (.tup [.str "hold",.int n]):=hf;refine ixTm (SqT.of h1) rfl ?_;exists iteE1 ?_;exists ixTm (SqT.of h1) rfl ?_;refine⟨by rw[length_map]at *;omega,ks++[n],by rw[map_append];rfl,by rw[List.length_append,length_singleton];omega,yn hk hpi (fun n z=>mem_append_left _ z) (fun m e=>?_),rfl⟩;have e1:Fm.hold n = .hold m:=e;injection e1 with e1;rw[<-e1];exact mem_append_right _ (mem_singleton.mpr rfl)
  | ring x n=>
   have h1:H fb=some (.tup [.str "ring",.str x,.int n]):=hf;refine ixTm (SqT.of h1) rfl ?_;walk_at"g";exact iteB0 (by decide +kernel) (no fun n e=>by cases e)
  | rise x v n=>
   have h1:H fb=some (.tup [.str "raise",.str x,.int v,.int n]):=hf;refine ixTm (SqT.of h1) rfl ?_;walk_at"g";exact iteB0 (by decide +kernel) (no fun n e=>by cases e)
  | row xs=>
   obtain⟨c,h1,_⟩:=hf;refine ixTm (SqT.of h1) rfl ?_;walk_at"g";exact iteB0 (by decide +kernel) (no fun n e=>by cases e)
  | side xs=>
   obtain⟨c,h1,_⟩:=hf;refine ixTm (SqT.of h1) rfl ?_;walk_at"g";exact iteB0 (by decide +kernel) (no fun n e=>by cases e)
  | again k x=>
   have h1:H fb=some (.tup [.str "again",.int k,.str x]):=hf;refine ixTm (SqT.of h1) rfl ?_;walk_at"g";exact iteB0 (by decide +kernel) (no fun n e=>by cases e)
 rintro ys H' ⟨ks,rfl,kl,hk,rfl⟩;rw[length_map,pl]at kl;rw[length_map,pl,take_length]at hk;refine⟨by rw[length_map];omega,?_⟩;walk_at"f 1 t";exists⟨fun m σ H'=>∃n:Int,σ=[some (.ref pp),some (.ref p1),some (.int n)]/\H1=H'/\m=(ks.filter fun k=>decide (k<=n)).length,⟨_,_,rfl,rfl,rfl⟩,?_⟩;rintro m σ H' ⟨n,rfl,rfl,rfl⟩;exists⟨p1,_,rfl,.inl (SqL.of t1),rfl,flats _,?_⟩;rw[inI];exists iteD (fun c1=>?_) (fun c1=>?_)
 ·refine⟨fun σ' H'=>σ'=[some (.ref pp),some (.ref p1),some (.int (n-1))]/\H1=H',?_,?_⟩
  ·rintro σ' H' ⟨rfl,rfl⟩;exact⟨_,ke c1,_,rfl,rfl,rfl⟩
  walk_at"g";exact⟨rfl,rfl⟩
 ·walk_at"g";exact q n H1 s1 (hk n c1)
theorem ZJ(T:Txt K mg t)(jz:FnOk P w K mg base CX0 1 t.j5 t.j6 ["_law_script","_law_k"] (Pr.sp_cell_at K))(ju:FnOk P w K mg base CX0 1 t.jQ t.jR ["_law_cell","_law_turn"] (qV))(jB:FnOk P w K mg base CX0 1 t.jY t.jZ ["_law_cell","_law_many"] (Ws.Qx))(JH:FnOk P w K mg base CX0 2 t.JJ t.JM ["_law_cell","_law_many"] (sp_namesT))(qW:FnOk P w K mg base CX0 1 t.JD t.JE ["_law_form","_law_names_here","_law_some"] (sp_renamed))(QM:FnOk P w K mg base CX0 1 t.qG t.qI ["_law_parts"] (sp_free)):FnOk P w K mg base CX0 3 t.JW t.JZ ["_law_script","_law_parts"] (sp_second K):=by
 refine T.Q8.ok jx (fun vs H Q E h=>?_) (fun cdv A outer s H vs Q E hr h=>?_)
 ·cases h;subst_vars;rfl
 obtain⟨a,pp,ns,pas,ls,ps,rfl,hS,h63,hpp,pa,W,n1,n60,q⟩:=h;refine⟨_,(jd (jj (i:=2) jx.nd rfl (.inl rfl) (jo (JH.mono (by decide)) hr (by rfl) T.zD T.Qy.kp T.zk .nil pass0 (ja (jh jJ (jo (ju.mono (by decide)) hr (by rfl) T.Jg T.jX.kp T.Jc .nil pass0 (ja (jo (jz.mono (by decide)) hr (by rfl) T.Jl T.j4.kp T.Jj .nil pass0 (ja (pv 0) (ja jb jc))) (ja jb jc))) jb) (ja jb jc))))
  (jd (jj (i:=3) jx.nd rfl (.inl rfl) (jo (QM.mono (by decide)) hr (by rfl) T.Yp T.zW.kp T.Ya .nil pass0 (ja (pv 1) jc)))
  (jd (jj (i:=4) jx.nd rfl (.inl rfl) (jh Qm jb (jq jG (by rfl) T.Jr jW (ja (pv 1) jc))))
  (jd (jj (i:=5) jx.nd rfl (.inl rfl) zF)
  (jd (jj (i:=6) jx.nd rfl (.inl rfl) (Ja jc))
  (jd (Jp PassesOwn.never rfl (Ji (pv 1)) (ZP rfl (J1 (jv (i:=7) jx.nd rfl (.inl rfl)) (J1 (jv (i:=8) jx.nd rfl (.inl rfl)) zG)))
   (jd (zH (jI hr) (pv 5) (pv 7) (Ja jc) rfl)
   (jd (jj (i:=9) jx.nd rfl (.inl rfl) (jo (ju.mono (by decide)) hr (by rfl) T.Jg T.jX.kp T.Jc .nil pass0 (ja (jo (jz.mono (by decide)) hr (by rfl) T.Jl T.j4.kp T.Jj .nil pass0 (ja (pv 0) (ja (jh jJ jb (jh jy (jq yf (by rfl) T.Jr jW (ja (pv 5) jc)) jb)) jc))) (ja jb jc))))
   (jd (jj (i:=10) jx.nd rfl (.inl rfl) (jo (jB.mono (by decide)) hr (by rfl) T.J0 T.Jv.kp T.JS .nil pass0 (ja (jh jJ (pv 9) (jh JP jb (jq yf (by rfl) T.Jr jW (ja (pv 5) jc)))) (ja jb jc))))
   (jd (zR (PW.pt (yZ (jt JR (jh jy (ji jp (pv 10) jb) jb) jb (nomark _)) (Zq (jt ZN (pv 4) jb (nomark _)))))
    (jd (jD (qO PySem.F.plainAttrs_list PySem.F.slot_list_append PySem.F.type_list_append jP (pv 6) (ja (j8 (ja (ji jp (pv 2) (jq jG (by rfl) T.Jr jW (ja (pv 6) jc))) (ja (j8 (ja jr (ja (pv 3) jc))) jc))) jc)))
    (jg (jj (i:=4) jx.nd rfl (.inl rfl) (jh Qm (pv 4) jb))))
    jM)
   (jg (Jp PassesOwn.never rfl (JA (by rfl) T.JL (ja (jh jJ jb (Jz ye (by rfl) T.KY YZ (ja (wz (Zo JR (jh jy (ji jp (pv 10) jb) jb) jb (nomark _)) (wC (Zo ZN (pv 4) jb (nomark _)))) jc))) jc)) (jv (i:=11) jx.nd rfl (.inl rfl))
    (jd (jD (qO PySem.F.plainAttrs_list PySem.F.slot_list_append PySem.F.type_list_append jP (pv 6) (ja (j8 (ja (ji jp (pv 2) (jq jG (by rfl) T.Jr jW (ja (pv 6) jc))) (ja (jo (qW.mono (by decide)) hr (by rfl) T.ZE T.QK.kp T.Zs .nil pass0 (ja (pv 8) (ja (pv 5) (ja (Jb Qg (pv 10) (j9 (jh JP jb (pv 11))) (j9 (jh jJ (jh JP jb (pv 11)) jb))) jc)))) jc))) jc)))
    (jd (jD (qO PySem.F.plainAttrs_list PySem.F.slot_list_append PySem.F.type_list_append jP (jw (jI hr) (pv 5) (pv 7)) (ja (ji jC (ji jp (pv 6) (kS y9 jb)) jb) jc)))
    (jg (jj (i:=4) jx.nd rfl (.inl rfl) (jh Qm (pv 4) (pv 11)))))))))))))
  (jg (jH (pv 6))))))))),?_⟩
 refine jE (σ':=[some _,some _,none,none,none,none,none,none,none,none,none,none]) rfl ?_;have sz:(200:Nat)<sizeLine:=by decide
 have pl:=pa.1;have xl:(nmsOf ps).length=ps.length:=length_map _;exists⟨a,ns,_,rfl,hS,h63,by omega,?_⟩;exists⟨_,_,rfl,by omega,by omega,fun w0=>?_⟩;exists⟨_,60,rfl,by omega,fun pf fr H1 s1 hpf tf frl frn frw=>?_⟩;exists⟨pp,pas,ps,rfl,s1 _ _ hpp,pa.mono fun b x h=>PartAt.same s1 h,by omega,fun n H2 s2 nf=>?_⟩;have s02:=s1.trans s2;exists⟨_,_,rfl,.inl ⟨_,SqL.of (s02 _ _ hpp),rfl⟩,?_⟩;rw[length_map,pl];walk_at"g";walk_at"f d hd H3 s3 t3";exists⟨Nat.zero_le _,?_⟩;walk_at"f pm hpm H4 s4 t4";have s34:=s3.trans s4;have s04:=s02.trans s34;have tf4:=s34 _ _ (s2 _ _ tf);have td4:=s4 _ _ t3;have ndm:d≠pm:=je t3 hpm;have nd0:H d=none:=none_of s02 hd;have nm0:H pm=none:=none_of (s02.trans s3) hpm;have nfd:pf≠d:=je (s2 _ _ tf) hd;have nfm:pf≠pm:=je (s3 _ _ (s2 _ _ tf)) hpm;exists⟨pp,rfl,⟨_,SqL.of (s04 _ _ hpp)⟩,?_⟩;refine QQ (xs:=pas.map V.ref) (fun i σ H'=>∃(o7 o8 o9 o10 o11:Option V) (qs:List (Str×Fm)) (nh:List (List Nat)) (has mas:List Addr) (r:Nat),σ=[some (.ref a),some (.ref pp),some (.ref pf),some (.int n),some (.int (r:Nat)),some (.ref d),some (.ref pm),o7,o8,o9,o10,o11]/\Sec (nmsOf ls) (nmsOf ps) fr ps n i qs nh/\(0<i->qs.length-1∈nh.getD (i-1) [])/\qs.length+(ps.length-i)+r=60/\SecAt fr (nmsOf ps) d pm H4 i qs nh has mas H')
  ⟨_,_,_,_,_,[],[],[],[],60-ps.length,(by rw[show((60-ps.length:Nat):Int)=60-(ps.length:Int) by omega]),Sec.nil,(fun z=>absurd z (Nat.lt_irrefl 0)),(by show 0+(ps.length-0)+(60-ps.length)=60;omega),⟨td4,rfl,.nil,(fun ks h=>nomatch h),t4,.nil,(fun b h=>nomatch h),fun b u _ _ h=>h⟩⟩ ?_ ?_ ?_
 ·rintro i σ H' _ ⟨o7,o8,o9,o10,o11,qs,nh,has,mas,r,rfl,S,lst,cnt,A⟩;exact SqL.of (A.kp _ _ (je (s02 _ _ hpp) hd) (je ((s02.trans s3) _ _ hpp) hpm) (s04 _ _ hpp))
 ·rintro i x σ H' hx ⟨o7,o8,o9,o10,o11,qs,nh,has,mas,r,rfl,S,lst,cnt,A⟩;obtain⟨a',p,rfl,hp,fb,hat,hf⟩:=pa.at_ref hx;have hi:=(List.getElem?_eq_some_iff.mp hp).1;have kH:Same H H':=fun b u h=>A.kp _ _ (je (s02 _ _ h) hd) (je ((s02.trans s3) _ _ h) hpm) (s04 _ _ h)
  have tf':=A.kp _ _ nfd nfm tf4;have hnm:(nmsOf ps)[i]?=some p.1:=by unfold nmsOf;rw[List.getElem?_map,hp];rfl
  have ll:((nmsOf ps).take i).length=has.length:=by rw[length_take,A.hl];omega
  have hk:(Sum.inr p.1:Key)∉(refG ((nmsOf ps).take i) has).map (·.1):=fun z=>by
   rw[yx ll]at z;obtain⟨y,hy,e⟩:=mem_map.mp z;have e':y=p.1:=Sum.inr.inj e;subst e';obtain⟨j,hj,e⟩:=mem_iff_getElem.mp hy;rw[length_take]at hj;rw[getElem_take]at e;obtain⟨h2,e2⟩:=List.getElem?_eq_some_iff.mp hnm;exact absurd (e.trans e2.symm) (pairwise_iff_getElem.mp W.pn j i (by omega) h2 (by omega))
  refine ZQ (SqT.of (kH _ _ hat)) ?_;exists⟨Nat.zero_le _,?_⟩;walk_at"f p1 hp1 H5 s5 t5";exists⟨d,_,rfl,DPut.k (k:=Sum.inr p.1) (s5 _ _ A.hd) (by rw[YI ll,length_take];omega),?_⟩;rw[QW hk,<-KE ll,<-take_snoc hnm];generalize e6:upd H5 d _=H6;have t6:=KS e6;have k6:∀b u,b≠d->H5 b=some u->H6 b=some u:=fun b u n h=>e6▸(jk n).trans h
  clear e6;have np1:d≠p1:=je A.hd hp1;have e16:=k6 _ _ (Ne.symm np1) t5;have lk:∀b ys,H' b=some (.lst ys)->H6 b=some (.lst ys):=fun b ys h=>k6 _ _ (qk h A.hd (fun z=>by cases z)) (s5 _ _ h)
  have tk:∀b ys,H' b=some (.tup ys)->H6 b=some (.tup ys):=fun b ys h=>k6 _ _ (qk h A.hd (fun z=>by cases z)) (s5 _ _ h)
  have kH6:Same H H6:=fun b u h=>k6 _ _ (je h nd0) (s5 _ _ (kH _ _ h))
  have gl:(refG ((nmsOf ps).take (i+1)) (has++[p1])).length=i+1:=by
   rw[YI (by rw[length_take,List.length_append,length_singleton,A.hl];omega),length_take];omega
  exists⟨d,_,rfl,t6,?_⟩;rw[gl];exists⟨a,ns,_,rfl,kH6.seq hS,h63,by omega,?_⟩;exists⟨_,_,rfl,by omega,by omega,fun w1=>?_⟩;exists⟨d,_,rfl,t6,?_⟩;rw[gl];exists⟨_,_,rfl,by omega,by omega,fun psm fs H7 s7 hps t7 l7 b7=>?_⟩;have B7:Big fs:=b7;have td7:=s7 _ _ t6;have e17:=s7 _ _ e16;have hh7:All2 (HereAt fr H7) has nh:=A.hh.mono fun b ks h=>s7 _ _ (lk _ _ h)
  have hm7:=s7 _ _ (lk _ _ A.hm);have mp7:All2 (PartAt H7) mas qs:=A.mp.mono fun b x h=>PartAt.same s7 (PartAt.tups tk h)
  have kH7:=kH6.trans s7;have tf7:=s7 _ _ (lk _ _ tf');have f7:=FormAt.same kH7 hf;have n1m:p1≠pm:=fun e=>by rw[e,A.hm]at hp1;cases hp1
  have nsm:psm≠pm:=fun e=>by rw[e,lk _ _ A.hm]at hps;cases hps
  have ns1:psm≠p1:=fun e=>by rw[e,e16]at hps;cases hps
  have kB7:∀b u,b≠d->b≠pm->H4 b=some u->H7 b=some u:=fun b u n1 n2 h=>s7 _ _ (k6 _ _ n1 (s5 _ _ (A.kp _ _ n1 n2 h)))
  have b1:H4 p1=none:=by
   cases e:H4 p1 with
   | none=>rfl
   | some u=>have:=A.kp _ _ (Ne.symm np1) n1m e;rw[hp1]at this;cases this
  have h1:∀b∈has,b≠p1:=fun b hb e=>by
   obtain⟨j,hj,ej⟩:=mem_iff_getElem.mp hb;have nl:=S.nl;have al:=A.hl;have:=A.hh.2 j b nh[j] (by rw[<-ej];exact List.getElem?_eq_getElem hj) (List.getElem?_eq_getElem (by omega));rw[e,HereAt,hp1]at this;cases this
  clear k6 s5 e16 t6 t5 lk tk kH6;have ml:=mp7.1;exists⟨fun σ' H8=>∃(qs:List (Str×Fm)) (mas:List Addr) (r:Nat),σ'=[some (.ref a),some (.ref pp),some (.ref pf),some (.int n),some (.int (r:Nat)),some (.ref d),some (.ref pm),some (.str p.1),some (.ref fb),some (.int w1),some (.ref psm),o11]/\Sec (nmsOf ls) (nmsOf ps) fr ps n i qs nh/\qs.length+(ps.length-i)+r=60/\H8 pm=some (.lst (mas.map V.ref))/\All2 (PartAt H8) mas qs/\∀b u,b≠pm->H7 b=some u->H8 b=some u,?_,?_⟩
  rotate_left
  ·exists ixLm (SqL.of t7) (Pr.jF (by omega) (by omega)) ?_;exists iteD (fun c1=>?_) (fun c1=>?_)
   ·exists iteD (fun c2=>?_) (fun c2=>?_)
    ·obtain⟨y,fq⟩:∃y,fr[qs.length]?=some y:=⟨_,List.getElem?_eq_getElem (by omega)⟩
     exists⟨.inl ⟨rfl,_,SqL.of hm7⟩,?_⟩;exists⟨_,_,rfl,.inl ⟨_,SqL.of hm7,rfl⟩,?_⟩;rw[length_map,ml];exists ixLm (SqL.of tf7) (KU fq) ?_;exists⟨by show 2<=sizeLine;omega,?_⟩;walk_at"f 8 t";refine⟨by show 2<=sizeLine;omega,?_⟩;walk_at"f 9 t";have s89:=s8.trans s9;exists⟨pm,_,_,rfl,rfl,s89 _ _ hm7,by rw[length_map];omega,?_⟩;obtain⟨u1,u2,u3⟩:=YF (p:=p9) (q:=(y,.hold n)) (s89 _ _ hm7) (mp7.mono fun b x h=>PartAt.same s89 h) ⟨p8,t9,s9 _ _ t8⟩;generalize upd H9 pm _=HA at u1 u2 u3|-;exists⟨qs++[(y,.hold n)],mas++[p9],r-1,(by rw[show((r-1:Nat):Int)=(r:Int)-1 by omega]),S.hold fq,(by rw[List.length_append,length_singleton];omega),u1,u2,fun b u nb h=>u3 _ _ nb (s89 _ _ h)⟩
    ·walk_at"g";exact⟨qs,mas,r,rfl,S,cnt,hm7,mp7,fun b u _ h=>h⟩
   ·exists iteF ?_;walk_at"g";exact⟨qs,mas,r,rfl,S,cnt,hm7,mp7,fun b u _ h=>h⟩
  clear hm7 mp7 S cnt ml;have Ah:=A.hl;have Ab:=A.hb;have A2:=A.h2;clear A lst;clear qs mas r;rintro σ8 H8 ⟨qs,mas,r,rfl,S,cnt,hm8,mp8,k8⟩;have td8:=k8 _ _ ndm td7;have e18:=k8 _ _ n1m e17;have t88:=k8 _ _ nsm t7;exists ixLm (SqL.of t88) (Pr.jF (by omega) (by omega)) ?_;walk_at"g";have l20:fs.length=20:=by omega
  have tf8:=k8 _ _ nfm tf7;have nf1:pf≠p1:=je tf' hp1;have hbm:∀b∈has,b≠pm:=fun b hb e=>by have:=Ab b hb;rw[e,t4]at this;cases this
  have hh8:All2 (HereAt fr H8) has nh:=hh7.monoM fun b hb ks h=>k8 _ _ (hbm b hb) h
  have kH8:Same H H8:=fun b u h=>k8 _ _ (je h nm0) (kH7 _ _ h)
  have hi1:∀b u,H b=some u->b≠p1:=fun b u h=>je (kH _ _ h) hp1
  have vp:valV (refG ((nmsOf ps).take (i+1)) (has++[p1])) (Sum.inr p.1)=some (.ref p1):=YJ (j:=i) (by rw[length_take,List.length_append,length_singleton,Ah];omega) (List.Nodup.sublist (take_sublist _ _) W.pn) (by rw[List.getElem?_take,if_pos (by omega)];exact hnm) (by rw[List.getElem?_append_right (by omega),Ah,Nat.sub_self];rfl);have nfp:p.2≠.hold n:=nf p (mem_of_getElem? hp);have cN:∀c:Bool,(c=true->0<r)->∃N:Nat,(1+(if c=true then(1:Int)else 0))=(N:Int)/\(N=1\/(N=2/\0<r)):=fun c h=>by
   cases c with
   | false=>exact⟨1,rfl,.inl rfl⟩
   | true=>exact⟨2,rfl,.inr ⟨rfl,h rfl⟩⟩
  clear hh7 kH7 td7 e17 t7 tf7 kH;refine iteD (fun c1=>?brA) (fun c1=>?brB)
  case' brA=>
   exists .inr ⟨_,rfl,?_⟩;walk_at"g";obtain⟨N,eN,hN⟩:=cN (decide ((0:Int)<(r:Nat))) (fun h=>by have:=of_decide_eq_true h;omega);rw[eN];clear c1 eN
  case' brB=>
   exists .inr ⟨_,rfl,?_⟩;walk_at"g";obtain⟨N,eN,hN⟩:=cN false (fun h=>by cases h);rw[eN];clear c1 eN
  all_goals
   clear cN;refine⟨_,rfl,by omega,by omega,?_⟩;refine Jy (fun k σ HB=>∃(o:Option V) (qs':List (Str×Fm)) (mas':List Addr) (r':Nat) (kl:List Nat),σ=[some (.ref a),some (.ref pp),some (.ref pf),some (.int n),some (.int (r':Nat)),some (.ref d),some (.ref pm),some (.str p.1),some (.ref fb),some (.int w1),some (.ref psm),o]/\((k=0/\kl=[]/\r'=r/\Sec (nmsOf ls) (nmsOf ps) fr ps n i qs' nh/\qs'.length+(ps.length-i)+r'=60)\/(1<=k/\k<=2/\1<=kl.length/\kl.length<=2/\(k=1->r'=r/\∃k0,kl=[k0])/\qs'.length-1∈kl/\Sec (nmsOf ls) (nmsOf ps) fr ps n (i+1) qs' (nh++[kl])/\qs'.length+(ps.length-(i+1))+r'=60))/\HB p1=some (.lst (kl.map fun k=>V.str (fr.getD k ⟨#[]⟩)))/\HB pm=some (.lst (mas'.map V.ref))/\All2 (PartAt HB) mas' qs'/\∀b u,b≠pm->b≠p1->H8 b=some u->HB b=some u)
    ⟨_,qs,mas,r,[],rfl,.inl ⟨rfl,rfl,rfl,S,cnt⟩,e18,hm8,mp8,fun b u _ _ h=>h⟩ ?_ ?_
   ·rintro k σ HB hk ⟨o,qs',mas',r',kl,rfl,dis,eB,mB,pB,kB⟩;have hk1:k<=1:=by omega
    have ql:qs'.length<60/\(k=1->1<=r')/\kl.length<=2:=by
     rcases dis with⟨z,z2,z3,z4,z5⟩ | ⟨z1,_,_,z4,z5,_,_,z6⟩
     ·exact⟨by omega,fun h=>by omega,by rw[z2];exact Nat.zero_le _⟩
     ·obtain⟨z7,_⟩:=z5 (by omega);exact⟨by omega,fun h=>by omega,z4⟩
    obtain⟨y,fq⟩:∃y,fr[qs'.length]?=some y:=⟨_,List.getElem?_eq_getElem (by omega)⟩
    have sB:Same H HB:=fun b u h=>kB _ _ (je h nm0) (hi1 b u h) (kH8 _ _ h)
    have tdB:=kB _ _ ndm np1 td8;have tfB:=kB _ _ nfm nf1 tf8;have tsB:=kB _ _ nsm ns1 t88;have hhB:All2 (HereAt fr HB) has nh:=hh8.monoM fun b hb ks h=>kB _ _ (hbm b hb) (h1 b hb) h
    have ml:=pB.1;exists⟨.inl ⟨rfl,_,SqL.of mB⟩,?_⟩;exists⟨_,_,rfl,.inl ⟨_,SqL.of mB,rfl⟩,?_⟩;rw[length_map,ml];exists ixLm (SqL.of tfB) (KU fq) ?_;exists⟨psm,_,rfl,SqL.of tsB,?_⟩;rw[show 8*(0+(k:Int))=((8*k:Nat):Int) by omega,W5 (by omega)];walk_at"f 9 t";exists⟨fb,d,p9,p.2,NmR (nmsOf ps) fr nh,_,_,rfl,FormAt.same (sB.trans s9) hf,(W.f i p hp).2,s9 _ _ tdB,t9,get8 l20 hk1,fun z hz=>(b7 z (mem_of_mem_drop (mem_of_mem_take hz))).1,fun x hx=>?_,fun c qf HC sC fC rq=>?_⟩
    ·obtain⟨j,hj,ej⟩:=(W.f i p hp).1 x hx;exact(Wf W.pn (by omega) S (by omega) Ah hhB A2 hj ej).same s9
    exists⟨by show 2<=sizeLine;omega,?_⟩;walk_at"f D t";have s9D:=s9.trans (sC.trans sD);exists⟨pm,_,_,rfl,rfl,s9D _ _ mB,by rw[length_map];omega,?_⟩;obtain⟨u1,u2,u3⟩:=YF (p:=pD) (q:=(y,qf)) (s9D _ _ mB) (pB.mono fun b x h=>PartAt.same s9D h) ⟨c,tD,FormAt.same sD fC⟩;generalize upd HD pm _=HE at u1 u2 u3|-;have g:=DGet.k (k:=Sum.inr p.1) (u3 _ _ ndm (s9D _ _ tdB));rw[vp]at g;have eE:=u3 _ _ n1m (s9D _ _ eB);have tE:=u3 _ _ (qk tD (s9D _ _ mB) (fun z=>by cases z)) tD;exists⟨d,_,rfl,g,?_⟩;exists⟨.inl ⟨rfl,_,SqL.of eE⟩,?_⟩;exists ixLm (SqL.of u1) (KR (n:=mas'.length+1) (v:=.ref pD) (by omega) (by rw[length_map,List.length_append];rfl) (by rw[Nat.add_sub_cancel,List.getElem?_map,List.getElem?_append_right (Nat.le_refl _),Nat.sub_self];rfl)) ?_;exists ixTm (SqT.of tE) rfl ?_;exists⟨p1,_,_,rfl,rfl,eE,by rw[length_map];omega,?_⟩;have v1:=HereAt.put (H:=HE) (a:=p1) (ks:=kl) fq;have v2:∀b u,b≠p1->HE b=some u->upd HE p1 (.lst ((kl.map fun k=>V.str (fr.getD k ⟨#[]⟩))++[.str y])) b=some u:=fun b u n h=>(jk n).trans h
    generalize upd HE p1 _=HF at v1 v2|-;exists⟨_,qs'++[(y,qf)],mas'++[pD],r'-k,kl++[qs'.length],(by rw[show((r'-k:Nat):Int)=(r':Int)-(0+(k:Int)) by omega]),.inr ?_,v1,v2 _ _ (Ne.symm n1m) u1,u2.mono fun b x h=>h.tups fun b xs h=>v2 _ _ (qk h eE (fun z=>by cases z)) h,fun b u n2 n3 h=>v2 _ _ n3 (u3 _ _ n2 (s9D _ _ (kB _ _ n2 n3 h)))⟩;have la:(qs'++[(y,qf)]).length=qs'.length+1:=by rw[List.length_append];rfl
    rw[la];rcases dis with⟨rfl,rfl,rfl,S',c'⟩ | ⟨z1,_,_,z4,z5,_,S',c'⟩
    ·exact⟨by omega,by omega,Nat.le_refl _,(by show 1<=2;omega),fun _=>⟨rfl,_,rfl⟩,mem_singleton.mpr rfl,S'.first (q:=(y,qf)) W frn hp rq nfp fq,by omega⟩
    ·obtain⟨_,k0,rfl⟩:=z5 (by omega);exact⟨by omega,by omega,(by show 1<=2;omega),(by show 2<=2;omega),fun h=>by omega,mem_cons_of_mem _ (mem_singleton.mpr rfl),S'.second (q:=(y,qf)) W frn hp rq fq,by omega⟩
   ·rintro σ HB ⟨o,qs',mas',r',kl,rfl,dis,eB,mB,pB,kB⟩;rcases dis with⟨z,_⟩ | ⟨_,_,z3,z4,_,z6,S',c'⟩
    ·omega
    have hhB:All2 (HereAt fr HB) has nh:=hh8.monoM fun b hb ks h=>kB _ _ (hbm b hb) (h1 b hb) h
    refine⟨_,_,_,_,_,qs',nh++[kl],has++[p1],mas',r',rfl,S',fun _=>?_,c',⟨kB _ _ ndm np1 td8,by rw[List.length_append,Ah];rfl,hhB.snoc eB,fun ks h=>?_,mB,pB,fun b h=>?_,fun b u n2 n3 h=>kB _ _ n3 (je h b1) (k8 _ _ n3 (kB7 _ _ n2 n3 h))⟩⟩
    ·rw[Nat.add_sub_cancel,<-S.nl,getD_last];exact z6
    ·rcases mem_append.mp h with h | h
     ·exact A2 ks h
     ·rw[mem_singleton.mp h];exact⟨z3,z4⟩
    ·rcases mem_append.mp h with h | h
     ·exact Ab b h
     ·rw[mem_singleton.mp h];exact b1
 ·rintro σ H' ⟨o7,o8,o9,o10,o11,qs,nh,has,mas,r,rfl,S,lst,cnt,A⟩;rw[length_map,pl]at S lst cnt A;walk_at"g";have sH:Same H H':=fun b u h=>A.kp _ _ (je h nd0) (je h nm0) (s04 _ _ h)
  exact q pm mas qs H' sH A.hm A.mp (S.done W n1 frn (by omega) (lst (by omega)))
theorem xt(T:Txt K mg t)(Zj:FnOk P w K mg base CX0 3 t.zq t.zA ["book"] (sp_drums))(qL:FnOk P w K mg base CX0 5 t.Jq t.Js ["_law_script"] (sp_roomT K))(Qk:FnOk P w K mg base CX0 3 t.JW t.JZ ["_law_script","_law_parts"] (sp_second K)):FnOk P w K mg base CX0 6 t.kx t.Yh ["_law_script"] (Pr.sp_law K):=by
 refine T.WM.ok y2 (fun vs H Q E h=>?_) (fun cdv A outer s H vs Q E hr h=>?_)
 ·cases h;subst_vars;rfl
 obtain⟨a,ns,rfl,hS,h63,hB,q⟩:=h;refine⟨_,(jd (jj (i:=1) y2.nd rfl (.inl rfl) (jo (qL.mono (by decide)) hr (by rfl) T.Zf T.QJ.kp T.Zd .nil pass0 (ja (pv 0) jc)))
  (jd (jj (i:=2) y2.nd rfl (.inl rfl) (jo (Zj.mono (by decide)) hr (by rfl) T.kL T.yC.kp T.kw .nil pass0 (ja (j8 (ja (jw (jI hr) (pv 1) jr) (ja (jw (jI hr) (pv 1) jr) jc))) jc)))
  (jd (jj (i:=3) y2.nd rfl (.inl rfl) (jo (Zj.mono (by decide)) hr (by rfl) T.kL T.yC.kp T.kw .nil pass0 (ja (j8 (ja (Jz zw (by rfl) T.yG Zk (ja (jw (jI hr) (pv 1) jr) jc)) (ja (jo (Qk.mono (by decide)) hr (by rfl) T.Z3 T.Q8.kp T.ZY .nil pass0 (ja (pv 0) (ja (jw (jI hr) (pv 1) jr) jc))) jc))) jc)))
  (jg (jH (wz (jq K2 (by rfl) T.yF ZZ (ja (pv 2) (ja (Wx (v:=.ty "tuple") (by rfl) T.zv QO rfl) jc))) (wC (Zo (yX hr.units) (pv 2) (pv 3) (nomark _))))))))),?_⟩
 refine jE (σ':=[some _,none,none,none]) rfl ?_;have sz:(200:Nat)<sizeLine:=by decide
 exists⟨a,ns,rfl,hS,h63,fun z m H1 s1 R G m1 m60 npl npp=>?_⟩;obtain⟨ls,el,al⟩:=R.l;obtain⟨qs,eq,aq⟩:=R.p;have Ob:=G.bk (by omega);have W:=G.wf (by omega);exists⟨_,_,rfl,Q1 R,?_⟩;exists⟨_,_,rfl,jV R,?_⟩;exists⟨(by show 2<=sizeLine;omega),?_⟩;walk_at"f p1 hp1 H2 s2 t1";have B1:BookAt H2 p1 z.pl z.pp ls qs m.limbs m.parts:=⟨t1,s2 _ _ el,al.mono fun b x h=>s2 _ _ h,s2 _ _ eq,aq.mono fun b x h=>PartAt.same s2 h⟩
 exists⟨p1,z.pl,z.pp,ls,qs,m.limbs,m.parts,rfl,B1,W,m1,fun tf l f df ms H3 s3 et el3 ef3 nl nf nlf dr Kd=>?_⟩;have s23:=s2.trans s3;have R3:=R.keeps s23;have B3:=B1.same s3;have v1:=K8 et el3 B3.la ef3 dr;exists⟨_,_,rfl,Q1 R3,?_⟩;exists⟨z.pl,_,rfl,.inl (SqL.of B3.l),?_⟩;walk_at"f 4 t";have R4:=R3.keeps s4;have B4:=B3.same s4;exists⟨_,_,rfl,jV R4,?_⟩;exists⟨a,z.pp,ns,qs,m.limbs,m.parts,rfl,(s1.trans (s23.trans s4)).seq hS,h63,B4.p,B4.pa,W,m1,m60,fun r mas qb H5 s5 er mp L=>?_⟩;obtain⟨W2,n2,lk⟩:=L;exists⟨(by show 2<=sizeLine;omega),?_⟩;walk_at"f 6 t";have s56:=s5.trans s6;have B6:BookAt H6 p6 p4 r ls mas m.limbs qb:=⟨t6,s56 _ _ t4,(B4.same s56).la,s6 _ _ er,mp.mono fun b x h=>PartAt.same s6 h⟩
 exists⟨p6,p4,r,ls,mas,m.limbs,qb,rfl,B6,W2,n2,fun tg lg fg dg mt H7 s7 etg elg efg nlg nfg nlfg drg Kg=>?_⟩;have v2:=K8 etg elg (B6.same s7).la efg drg;rw[<-lk ms mt Kd Kg]at v2;have s37:=s4.trans (s56.trans s7);have sh:=WG (ms:=ms) Ob;exists⟨_,_,_,_,rfl,.tup (s37 _ _ et),Z1,?_⟩;exists iteT ?_;exists⟨_,_,v1.mono s37,v2,sh.ok (by decide),sh.ok (by decide),?_⟩;rw[SeqAt.eqv_refl _ sh.1];exact q _
theorem wU(T:Txt K mg t):FnOk P w K mg base CX0 6 t.kx t.Yh ["_law_script"] (Pr.sp_law K):=by
 have qh:FnOk P w K mg base CX0 1 t.qi t.qj _ _:=yW T;have QB:FnOk P w K mg base CX0 1 t.qo t.qr _ _:=Z7 T;have YX:FnOk P w K mg base CX0 2 t.Zu t.Zy _ _:=Wu T QB qh;have zf:FnOk P w K mg base CX0 1 t.qX t.qY _ _:=YE T;have zJ:FnOk P w K mg base CX0 2 t.Qs t.Qt _ _:=kg T zf;have Zj:FnOk P w K mg base CX0 3 t.zq t.zA _ _:=wy T qh YX zJ;have jz:FnOk P w K mg base CX0 1 t.j5 t.j6 _ _:=Zg T;have ju:FnOk P w K mg base CX0 1 t.jQ t.jR _ _:=ZM T;have jB:FnOk P w K mg base CX0 1 t.jY t.jZ _ _:=ZL T;have JH:FnOk P w K mg base CX0 2 t.JJ t.JM _ _:=Z5 T jB;have jK:FnOk P w K mg base CX0 1 t.Je t.Jf _ _:=ZI T;have jO:FnOk P w K mg base CX0 1 t.qc t.qd _ _:=YD T;have Jd:FnOk P w K mg base CX0 2 t.Jw t.Jx _ _:=ZK T ju jK jO;have JI:FnOk P w K mg base CX0 1 t.JK t.JN _ _:=Z6 T;have QA:FnOk P w K mg base CX0 2 t.qm t.qq _ _:=Z4 T JI;have Qj:FnOk P w K mg base CX0 3 t.JV t.JY _ _:=ZH T ju jK jO Jd JI QA;have QN:FnOk P w K mg base CX0 4 t.qH t.qJ _ _:=yV T jz ju jB JH jK Jd Qj;have qy:FnOk P w K mg base CX0 2 t.JU t.JX _ _:=ZG T jO;have qL:FnOk P w K mg base CX0 5 t.Jq t.Js _ _:=zP T jz ju jB QN qy;have qW:FnOk P w K mg base CX0 1 t.JD t.JE _ _:=Zh T;have QM:FnOk P w K mg base CX0 1 t.qG t.qI _ _:=yU T;have Qk:FnOk P w K mg base CX0 3 t.JW t.JZ _ _:=ZJ T jz ju jB JH qW QM;exact xt T Zj qL Qk
end
@[elab_as_elim] theorem uu1{P:List Value->Prop}(us:List Value)(hl:us.length=1)(h:∀a0,P [a0]):P us:=match us,hl with | [a0],_=>h a0
theorem bb1{K:Frg}{x q:Str}{st:Stmt}{f:Addr}{fd:FuncData}{x0:Str}(F:Fun K x q st f fd)(h:∀(kV doc pm:Value) (an:Option Addr) (cdv ct:Value) (a0:Value),bindArgs (W.fnOf x q (defArgs st) (defBody st) (defScope st) .none kV doc pm an cdv ct) ⟨[a0],[]⟩=pure ([x0].zip [a0])):Binds K fd [x0] []:=F.binds fun a b c d e g us hl=>uu1 us hl (h a b c d e g)
@[elab_as_elim] theorem uu2{P:List Value->Prop}(us:List Value)(hl:us.length=2)(h:∀a0 a1,P [a0,a1]):P us:=match us,hl with | [a0,a1],_=>h a0 a1
theorem bb2{K:Frg}{x q:Str}{st:Stmt}{f:Addr}{fd:FuncData}{x0 x1:Str}(F:Fun K x q st f fd)(h:∀(kV doc pm:Value) (an:Option Addr) (cdv ct:Value) (a0 a1:Value),bindArgs (W.fnOf x q (defArgs st) (defBody st) (defScope st) .none kV doc pm an cdv ct) ⟨[a0,a1],[]⟩=pure ([x0,x1].zip [a0,a1])):Binds K fd [x0,x1] []:=F.binds fun a b c d e g us hl=>uu2 us hl (h a b c d e g)
@[elab_as_elim] theorem uu3{P:List Value->Prop}(us:List Value)(hl:us.length=3)(h:∀a0 a1 a2,P [a0,a1,a2]):P us:=match us,hl with | [a0,a1,a2],_=>h a0 a1 a2
theorem bb3{K:Frg}{x q:Str}{st:Stmt}{f:Addr}{fd:FuncData}{x0 x1 x2:Str}(F:Fun K x q st f fd)(h:∀(kV doc pm:Value) (an:Option Addr) (cdv ct:Value) (a0 a1 a2:Value),bindArgs (W.fnOf x q (defArgs st) (defBody st) (defScope st) .none kV doc pm an cdv ct) ⟨[a0,a1,a2],[]⟩=pure ([x0,x1,x2].zip [a0,a1,a2])):Binds K fd [x0,x1,x2] []:=F.binds fun a b c d e g us hl=>uu3 us hl (h a b c d e g)
@[elab_as_elim] theorem uu4{P:List Value->Prop}(us:List Value)(hl:us.length=4)(h:∀a0 a1 a2 a3,P [a0,a1,a2,a3]):P us:=match us,hl with | [a0,a1,a2,a3],_=>h a0 a1 a2 a3
theorem bb4{K:Frg}{x q:Str}{st:Stmt}{f:Addr}{fd:FuncData}{x0 x1 x2 x3:Str}(F:Fun K x q st f fd)(h:∀(kV doc pm:Value) (an:Option Addr) (cdv ct:Value) (a0 a1 a2 a3:Value),bindArgs (W.fnOf x q (defArgs st) (defBody st) (defScope st) .none kV doc pm an cdv ct) ⟨[a0,a1,a2,a3],[]⟩=pure ([x0,x1,x2,x3].zip [a0,a1,a2,a3])):Binds K fd [x0,x1,x2,x3] []:=F.binds fun a b c d e g us hl=>uu4 us hl (h a b c d e g)
theorem xE{K:Frg}{h:Heap}{mg:Str->Option Value}(X:K.In h)(G:h.Ns mainGlobals mg)
  {f1:Addr} {d1:FuncData}
  (a1:W.nsIn K mainGlobals "numbers_of"= some (some (.ref f1))) (F1:Fun K "numbers_of" "numbers_of" QH f1 d1)
  {f2:Addr} {d2:FuncData}
  (a2:W.nsIn K mainGlobals "names_in"= some (some (.ref f2))) (F2:Fun K "names_in" "names_in" zj f2 d2)
  {f3:Addr} {d3:FuncData}
  (a3:W.nsIn K mainGlobals "form_with"= some (some (.ref f3))) (F3:Fun K "form_with" "form_with" Qf f3 d3)
  {f4:Addr} {d4:FuncData}
  (a4:W.nsIn K mainGlobals "made"= some (some (.ref f4))) (F4:Fun K "made" "made" kn f4 d4)
  {f5:Addr} {d5:FuncData}
  (a5:W.nsIn K mainGlobals "come_to"= some (some (.ref f5))) (F5:Fun K "come_to" "come_to" zS f5 d5)
  {f6:Addr} {d6:FuncData}
  (a6:W.nsIn K mainGlobals "drums"= some (some (.ref f6))) (F6:Fun K "drums" "drums" Zr f6 d6)
  {f7:Addr} {d7:FuncData}
  (a7:W.nsIn K mainGlobals "_law_cell_at"= some (some (.ref f7))) (F7:Fun K "_law_cell_at" "_law_cell_at" Qa f7 d7)
  {f8:Addr} {d8:FuncData}
  (a8:W.nsIn K mainGlobals "_law_window"= some (some (.ref f8))) (F8:Fun K "_law_window" "_law_window" Qr f8 d8)
  {f9:Addr} {d9:FuncData}
  (a9:W.nsIn K mainGlobals "_law_stream"= some (some (.ref f9))) (F9:Fun K "_law_stream" "_law_stream" Qq f9 d9)
  {f10:Addr} {d10:FuncData}
  (a10:W.nsIn K mainGlobals "_law_names"= some (some (.ref f10))) (F10:Fun K "_law_names" "_law_names" qT f10 d10)
  {f11:Addr} {d11:FuncData}
  (a11:W.nsIn K mainGlobals "_law_number"= some (some (.ref f11))) (F11:Fun K "_law_number" "_law_number" Qn f11 d11)
  {f12:Addr} {d12:FuncData}
  (a12:W.nsIn K mainGlobals "_law_add"= some (some (.ref f12))) (F12:Fun K "_law_add" "_law_add" zi f12 d12)
  {f13:Addr} {d13:FuncData}
  (a13:W.nsIn K mainGlobals "_law_simple"= some (some (.ref f13))) (F13:Fun K "_law_simple" "_law_simple" Qp f13 d13)
  {f14:Addr} {d14:FuncData}
  (a14:W.nsIn K mainGlobals "_law_there"= some (some (.ref f14))) (F14:Fun K "_law_there" "_law_there" QG f14 d14)
  {f15:Addr} {d15:FuncData}
  (a15:W.nsIn K mainGlobals "_law_apart"= some (some (.ref f15))) (F15:Fun K "_law_apart" "_law_apart" qS f15 d15)
  {f16:Addr} {d16:FuncData}
  (a16:W.nsIn K mainGlobals "_law_naming"= some (some (.ref f16))) (F16:Fun K "_law_naming" "_law_naming" Jh f16 d16)
  {f17:Addr} {d17:FuncData}
  (a17:W.nsIn K mainGlobals "_law_room"= some (some (.ref f17))) (F17:Fun K "_law_room" "_law_room" QX f17 d17)
  {f18:Addr} {d18:FuncData}
  (a18:W.nsIn K mainGlobals "_law_joined"= some (some (.ref f18))) (F18:Fun K "_law_joined" "_law_joined" JB f18 d18)
  {f19:Addr} {d19:FuncData}
  (a19:W.nsIn K mainGlobals "_law_gathered"= some (some (.ref f19))) (F19:Fun K "_law_gathered" "_law_gathered" J3 f19 d19)
  {f20:Addr} {d20:FuncData}
  (a20:W.nsIn K mainGlobals "_law_renamed"= some (some (.ref f20))) (F20:Fun K "_law_renamed" "_law_renamed" Qb f20 d20)
  {f21:Addr} {d21:FuncData}
  (a21:W.nsIn K mainGlobals "_law_free"= some (some (.ref f21))) (F21:Fun K "_law_free" "_law_free" Qe f21 d21)
  {f22:Addr} {d22:FuncData}
  (a22:W.nsIn K mainGlobals "_law_second"= some (some (.ref f22))) (F22:Fun K "_law_second" "_law_second" Qo f22 d22)
  {f23:Addr} {d23:FuncData}
  (a23:W.nsIn K mainGlobals "law"= some (some (.ref f23))) (F23:Fun K "law" "law" wM f23 d23)
  {JQ:Addr}
  (g_MOST_NAMES:W.nsIn K mainGlobals "MOST_NAMES"= some (some (.ref JQ))) (kk_MOST_NAMES:TabK K JQ [("row",.flat (.int 8)),("side",.flat (.int 4))])
  (z0:W.nsIn K mainGlobals "enumerate"= some none) (z1:W.nsIn K mainGlobals "int"= some none) (z2:W.nsIn K mainGlobals "isinstance"= some none) (z3:W.nsIn K mainGlobals "len"= some none) (z4:W.nsIn K mainGlobals "list"= some none) (z5:W.nsIn K mainGlobals "max"= some none) (z6:W.nsIn K mainGlobals "min"= some none) (z7:W.nsIn K mainGlobals "range"= some none) (z8:W.nsIn K mainGlobals "sorted"= some none) (z9:W.nsIn K mainGlobals "sum"= some none) (z10:W.nsIn K mainGlobals "tuple"= some none) :
  ∃t:Ad,Txt K mg t:=by
 exact⟨⟨f1,_,f2,_,f3,_,f4,_,f5,_,f6,_,f7,_,f8,_,f9,_,f10,_,f11,_,f12,_,f13,_,f14,_,f15,_,f16,_,f17,_,f18,_,f19,_,f20,_,f21,_,f22,_,f23,_,_⟩,⟨F1,W.mg_of X G a1,bb1 F1 fun _ _ _ _ _ _ _=>rfl,
  F2,W.mg_of X G a2,bb1 F2 fun _ _ _ _ _ _ _=>rfl,
  F3,W.mg_of X G a3,bb3 F3 fun _ _ _ _ _ _ _ _ _=>rfl,
  F4,W.mg_of X G a4,bb1 F4 fun _ _ _ _ _ _ _=>rfl,
  F5,W.mg_of X G a5,bb2 F5 fun _ _ _ _ _ _ _ _=>rfl,
  F6,W.mg_of X G a6,bb1 F6 fun _ _ _ _ _ _ _=>rfl,
  F7,W.mg_of X G a7,bb2 F7 fun _ _ _ _ _ _ _ _=>rfl,
  F8,W.mg_of X G a8,bb2 F8 fun _ _ _ _ _ _ _ _=>rfl,
  F9,W.mg_of X G a9,bb2 F9 fun _ _ _ _ _ _ _ _=>rfl,
  F10,W.mg_of X G a10,bb2 F10 fun _ _ _ _ _ _ _ _=>rfl,
  F11,W.mg_of X G a11,bb3 F11 fun _ _ _ _ _ _ _ _ _=>rfl,
  F12,W.mg_of X G a12,bb4 F12 fun _ _ _ _ _ _ _ _ _ _=>rfl,
  F13,W.mg_of X G a13,bb3 F13 fun _ _ _ _ _ _ _ _ _=>rfl,
  F14,W.mg_of X G a14,bb2 F14 fun _ _ _ _ _ _ _ _=>rfl,
  F15,W.mg_of X G a15,bb2 F15 fun _ _ _ _ _ _ _ _=>rfl,
  F16,W.mg_of X G a16,bb3 F16 fun _ _ _ _ _ _ _ _ _=>rfl,
  F17,W.mg_of X G a17,bb1 F17 fun _ _ _ _ _ _ _=>rfl,
  F18,W.mg_of X G a18,bb2 F18 fun _ _ _ _ _ _ _ _=>rfl,
  F19,W.mg_of X G a19,bb1 F19 fun _ _ _ _ _ _ _=>rfl,
  F20,W.mg_of X G a20,bb3 F20 fun _ _ _ _ _ _ _ _ _=>rfl,
  F21,W.mg_of X G a21,bb1 F21 fun _ _ _ _ _ _ _=>rfl,
  F22,W.mg_of X G a22,bb2 F22 fun _ _ _ _ _ _ _ _=>rfl,
  F23,W.mg_of X G a23,bb1 F23 fun _ _ _ _ _ _ _=>rfl,
  W.mg_none_of X G z0,
  W.mg_none_of X G z1,
  W.mg_none_of X G z2,
  W.mg_none_of X G z3,
  W.mg_none_of X G z4,
  W.mg_none_of X G z5,
  W.mg_none_of X G z6,
  W.mg_none_of X G z7,
  W.mg_none_of X G z8,
  W.mg_none_of X G z9,
  W.mg_none_of X G z10,
  W.mg_of X G g_MOST_NAMES,kk_MOST_NAMES⟩⟩
end K36
open PySem PySem.W PyProof.Rows
set_option maxRecDepth 100000 in
set_option maxHeartbeats 0 in
theorem PySem.Challenge.cw_camplay_k36_like_books_holds : PySem.Challenge.rw_camplay_k36_like_books.Holds := by
 w_on;o_law;k_head;(case hw=>w_witness2)
 k_fill
 refine L2.wR (l:=PySem.Challenge.rw_camplay_k36_like_books) (n:=63) (k:=6) (x:="_law_script") (CX:=L2.CX0) (sp:=Pr.sp_law) rfl (by decide) rfl ⟨rfl,by decide,by decide⟩ (fun w h Y=>PySem.W.kIn_of Y) ?F (fun K H a ns hl hb hO hS=>⟨a,ns,rfl,hS,hl,hb,fun _=>rfl⟩) (fun _ _ _ _ z=>z)
 case F=>
  intro w mg fa h KX G hmg;have TT:∃t:K36.Ad,K36.Txt (L2.KOf KX) mg t:=by
   dsimp only[L2.KOf];refine' K36.xE KX G ?a1 (L2.j7 ?l1 ?c1 ?k1) ?a2 (L2.j7 ?l2 ?c2 ?k2) ?a3 (L2.j7 ?l3 ?c3 ?k3) ?a4 (L2.j7 ?l4 ?c4 ?k4) ?a5 (L2.j7 ?l5 ?c5 ?k5) ?a6 (L2.j7 ?l6 ?c6 ?k6) ?a7 (L2.j7 ?l7 ?c7 ?k7) ?a8 (L2.j7 ?l8 ?c8 ?k8) ?a9 (L2.j7 ?l9 ?c9 ?k9) ?a10 (L2.j7 ?l10 ?c10 ?k10) ?a11 (L2.j7 ?l11 ?c11 ?k11) ?a12 (L2.j7 ?l12 ?c12 ?k12) ?a13 (L2.j7 ?l13 ?c13 ?k13) ?a14 (L2.j7 ?l14 ?c14 ?k14) ?a15 (L2.j7 ?l15 ?c15 ?k15) ?a16 (L2.j7 ?l16 ?c16 ?k16) ?a17 (L2.j7 ?l17 ?c17 ?k17) ?a18 (L2.j7 ?l18 ?c18 ?k18) ?a19 (L2.j7 ?l19 ?c19 ?k19) ?a20 (L2.j7 ?l20 ?c20 ?k20) ?a21 (L2.j7 ?l21 ?c21 ?k21) ?a22 (L2.j7 ?l22 ?c22 ?k22) ?a23 (L2.j7 ?l23 ?c23 ?k23) ?g_MOST_NAMES ?kk_MOST_NAMES ?z0 ?z1 ?z2 ?z3 ?z4 ?z5 ?z6 ?z7 ?z8 ?z9 ?z10
   (case a1=>k_is);(case l1=>k_is);(case c1=>k_is);(case k1=>k_is)
   (case a2=>k_is);(case l2=>k_is);(case c2=>k_is);(case k2=>k_is)
   (case a3=>k_is);(case l3=>k_is);(case c3=>k_is);(case k3=>k_is)
   (case a4=>k_is);(case l4=>k_is);(case c4=>k_is);(case k4=>k_is)
   (case a5=>k_is);(case l5=>k_is);(case c5=>k_is);(case k5=>k_is)
   (case a6=>k_is);(case l6=>k_is);(case c6=>k_is);(case k6=>k_is)
   (case a7=>k_is);(case l7=>k_is);(case c7=>k_is);(case k7=>k_is)
   (case a8=>k_is);(case l8=>k_is);(case c8=>k_is);(case k8=>k_is)
   (case a9=>k_is);(case l9=>k_is);(case c9=>k_is);(case k9=>k_is)
   (case a10=>k_is);(case l10=>k_is);(case c10=>k_is);(case k10=>k_is)
   (case a11=>k_is);(case l11=>k_is);(case c11=>k_is);(case k11=>k_is)
   (case a12=>k_is);(case l12=>k_is);(case c12=>k_is);(case k12=>k_is)
   (case a13=>k_is);(case l13=>k_is);(case c13=>k_is);(case k13=>k_is)
   (case a14=>k_is);(case l14=>k_is);(case c14=>k_is);(case k14=>k_is)
   (case a15=>k_is);(case l15=>k_is);(case c15=>k_is);(case k15=>k_is)
   (case a16=>k_is);(case l16=>k_is);(case c16=>k_is);(case k16=>k_is)
   (case a17=>k_is);(case l17=>k_is);(case c17=>k_is);(case k17=>k_is)
   (case a18=>k_is);(case l18=>k_is);(case c18=>k_is);(case k18=>k_is)
   (case a19=>k_is);(case l19=>k_is);(case c19=>k_is);(case k19=>k_is)
   (case a20=>k_is);(case l20=>k_is);(case c20=>k_is);(case k20=>k_is)
   (case a21=>k_is);(case l21=>k_is);(case c21=>k_is);(case k21=>k_is)
   (case a22=>k_is);(case l22=>k_is);(case c22=>k_is);(case k22=>k_is)
   (case a23=>k_is);(case l23=>k_is);(case c23=>k_is);(case k23=>k_is)
   (case g_MOST_NAMES=>k_is);(case kk_MOST_NAMES=>(show PyProof.Rows.KTD.tabLook _ _ _ _=true);kernel_rfl)
   (case z0=>k_is)
   (case z1=>k_is)
   (case z2=>k_is)
   (case z3=>k_is)
   (case z4=>k_is)
   (case z5=>k_is)
   (case z6=>k_is)
   (case z7=>k_is)
   (case z8=>k_is)
   (case z9=>k_is)
   (case z10=>k_is)
  obtain⟨t,T⟩:=TT;obtain⟨_,_,kV,dc,pm,an,cd,ct,_,e,_⟩:=T.WM.ex;have e0:=hmg.symm.trans T.xN;cases e0;refine⟨t.Yh,fun s v=>?_,fun base _ _=>K36.wU T⟩;rw[e];exact .of_eq rfl
#print axioms PySem.Challenge.cw_camplay_k36_like_books_holds
