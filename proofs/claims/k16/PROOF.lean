import PyProof.Rows.All
import Wide.All
import OpenK.AllK
import Wide.FinOn
import Lean
import PyProof.EqAt
import PyProof.EqKinds
import PyProof.TupleCall
import PySem.Challenge.RW_camplay_k16_one_part_far
set_option Elab.async false
set_option linter.all false
set_option maxRecDepth 100000
set_option maxHeartbeats 4000000
namespace L2
open PySem PySem.Spec PyProof.Rows
noncomputable abbrev Key := Sum Int Str
noncomputable def keyIs : Key → Value → Bool
 | .inl k, v => Value.isInt k v
 | .inr x, v => Value.isStrOf x v
noncomputable def keyH (w : World) : Key → Int
 | .inl k => hashInt k
 | .inr x => hashStr w x
theorem keyIs_shape : ∀ {k : Key} {v : Value}, keyIs k v = true → (∃ i t, k = Sum.inl i ∧ v = Value.int i t) ∨ (∃ x t, k = Sum.inr x ∧ v = Value.str x t)
 | .inl i, v, h => by
  obtain ⟨t, e⟩ := Value.isInt_shape (k := i) (v := v) h
  exact .inl ⟨i, t, rfl, e⟩
 | .inr x, v, h => by
  obtain ⟨t, e⟩ := Value.isStrOf_shape (x := x) (v := v) h
  exact .inr ⟨x, t, rfl, e⟩
theorem keyIs_int (i : Int) (t : Tok) : keyIs (.inl i) (.int i t) = true := by simp [keyIs, Value.isInt]
theorem keyIs_str (x : Str) (t : Tok) : keyIs (.inr x) (.str x t) = true := by simp [keyIs, Value.isStrOf]
theorem key_ll (a b : Int) : decide ((Sum.inl a : Key) = Sum.inl b) = (a == b) := by
 by_cases e : a = b
 ·subst e; simp
 ·have h : ¬ (Sum.inl a : Key) = Sum.inl b := fun q => e (Sum.inl.inj q)
  rw [decide_eq_false h]
  exact (beq_eq_false_iff_ne.mpr e).symm
theorem key_rr (a b : Str) : decide ((Sum.inr a : Key) = Sum.inr b) = decide (a = b) := by
 by_cases e : a = b
 ·subst e; simp
 ·have h : ¬ (Sum.inr a : Key) = Sum.inr b := fun q => e (Sum.inr.inj q)
  rw [decide_eq_false h, decide_eq_false e]
theorem key_lr (a : Int) (b : Str) : decide ((Sum.inl a : Key) = Sum.inr b) = false := decide_eq_false (fun q => nomatch q)
theorem key_rl (a : Str) (b : Int) : decide ((Sum.inr a : Key) = Sum.inl b) = false := decide_eq_false (fun q => nomatch q)
noncomputable def mixKind (prog : Program) (w : World) : PySem.KeyKind prog w Key where
 is := keyIs
 hash := keyH w
 inj := fun v a b ha hb => by
  rcases keyIs_shape ha with ⟨i, t, rfl, rfl⟩ | ⟨x, t, rfl, rfl⟩
  ·rcases keyIs_shape hb with ⟨j, u, rfl, e⟩ | ⟨y, u, rfl, e⟩
   ·injection e with e1 _; rw [e1]
   ·exact nomatch e
  ·rcases keyIs_shape hb with ⟨j, u, rfl, e⟩ | ⟨y, u, rfl, e⟩
   ·exact nomatch e
   ·injection e with e1 _; rw [e1]
 byValue := fun k v h => by
  rcases keyIs_shape h with ⟨i, t, rfl, rfl⟩ | ⟨x, t, rfl, rfl⟩ <;> rfl
 pyHash := fun hv h => by
  rcases keyIs_shape hv with ⟨i, t, rfl, rfl⟩ | ⟨x, t, rfl, rfl⟩
  ·exact wpAny_pyHash_int h
  ·exact wpAny_pyHash_str h
 eqBool := fun hu hv h => by
  rcases keyIs_shape hu with ⟨i, t, rfl, rfl⟩ | ⟨x, t, rfl, rfl⟩
  ·rcases keyIs_shape hv with ⟨j, u, rfl, rfl⟩ | ⟨y, u, rfl, rfl⟩
   ·rw [key_ll] at h; exact wpAny_eqBool_int h
   ·rw [key_lr] at h; exact SeqAt.EqAt.int_str i t y u _ _ _ _ h
  ·rcases keyIs_shape hv with ⟨j, u, rfl, rfl⟩ | ⟨y, u, rfl, rfl⟩
   ·rw [key_rl] at h; exact SeqAt.EqAt.str_int x t j u _ _ _ _ h
   ·rw [key_rr] at h; exact wpAny_eqBool_str h
 «strs» := fun k x t v h => by
  rcases keyIs_shape h with ⟨i, u, rfl, e⟩ | ⟨y, u, rfl, e⟩
  ·exact nomatch e
  ·injection e with e1 _
   subst e1
   cases v <;> rfl
theorem mixKind_int (prog : Program) (w : World) (i : Int) (t : Tok) : (mixKind prog w).is (.inl i) (.int i t) = true := keyIs_int i t
theorem mixKind_str (prog : Program) (w : World) (x : Str) (t : Tok) : (mixKind prog w).is (.inr x) (.str x t) = true := keyIs_str x t
end L2
namespace L2
open PySem PySem.Spec PyProof.Rows
inductive V where
 | non | bl (b : Bool) | int (i : Int) | str (x : Str) | byt (b : Array UInt8) | flt (b : UInt64) | ref (a : Addr) | ty (n : String)
 deriving DecidableEq
noncomputable def RelV : V → Value → Prop
 | .non, u => u = Value.none
 | .bl b, u => u = Value.bool b
 | .int i, u => ∃ t, u = Value.int i t
 | .str x, u => ∃ t, u = Value.str x t
 | .byt b, u => ∃ t, u = Value.bytes b t
 | .flt b, u => ∃ t, u = Value.float b t
 | .ref a, u => u = Value.ref a
 | .ty n, u => u = Value.type n
noncomputable abbrev Vals : List V → List Value → Prop := Paired RelV
theorem Vals.length {xs : List V} {us : List Value} (r : Vals xs us) : xs.length = us.length := Paired.length r
theorem Vals.get : ∀ {xs : List V} {us : List Value} {i : Nat} {x : V}, Vals xs us → xs[i]? = some x → ∃ u, us[i]? = some u ∧ RelV x u
 | _, _, _, _, .nil, e => by simp at e
 | _, _, 0, _, .cons r _, e => by simp at e; subst e; exact ⟨_, rfl, r⟩
 | _, _, i + 1, x, .cons _ t, e => by
  obtain ⟨u, h1, h2⟩ := Vals.get (i := i) (x := x) t (by simpa using e)
  exact ⟨u, by simpa using h1, h2⟩
theorem Vals.set {x : V} {u : Value} (r : RelV x u) : ∀ {xs : List V} {us : List Value} (i : Nat), Vals xs us → Vals (xs.set i x) (us.set i u)
 | _, _, _, .nil => .nil
 | _, _, 0, .cons _ t => .cons r t
 | _, _, i + 1, .cons q t => .cons q (Vals.set r i t)
theorem Vals.append : ∀ {xs ys : List V} {us ws : List Value}, Vals xs us → Vals ys ws → Vals (xs ++ ys) (us ++ ws)
 | _, _, _, _, .nil, s => s
 | _, _, _, _, .cons r t, s => .cons r (Vals.append t s)
theorem Vals.take : ∀ {xs : List V} {us : List Value} (n : Nat), Vals xs us → Vals (xs.take n) (us.take n)
 | _, _, 0, _ => .nil
 | _, _, _ + 1, .nil => .nil
 | _, _, n + 1, .cons r t => .cons r (Vals.take n t)
theorem Vals.drop : ∀ {xs : List V} {us : List Value} (n : Nat), Vals xs us → Vals (xs.drop n) (us.drop n)
 | _, _, 0, r => r
 | _, _, _ + 1, .nil => .nil
 | _, _, n + 1, .cons _ t => Vals.drop n t
theorem Vals.none_of : ∀ {xs : List V} {us : List Value} {i : Nat}, Vals xs us → xs[i]? = none → us[i]? = none := fun {xs us i} r e => by
 have h1 := r.length
 have h2 : xs.length ≤ i := List.getElem?_eq_none_iff.mp e
 exact List.getElem?_eq_none_iff.mpr (by omega)
noncomputable def RelO : Option V → Option Value → Prop
 | some v, some u => RelV v u
 | none, none => True
 | _, _ => False
noncomputable def KV {κ : Type} : List (κ × V) → List (κ × Value) → Prop := Paired fun (p : κ × V) (q : κ × Value) => p.1 = q.1 ∧ RelV p.2 q.2
noncomputable def kV : Key → V
 | .inl i => .int i
 | .inr x => .str x
inductive HO where
 | lst (xs : List V)
 | tup (xs : List V)
 | dK (kvs : List (Key × V)) | dT (kvs : List (List Key × V))
 | set (S : Int → Bool) (n : Nat)
 | ins (C dx : Addr) (fs : List (Str × V))
 | own (x : Addr)
 | xd (fs : List (Str × V))
 | met (f x : Addr)
 | rng (lo hi : Int)
 | frz (o : Obj) (u : HO)
 | tbl (ps : Array Value)
 | ext (φ : Heap → Prop)
noncomputable abbrev Hp := Addr → Option HO
noncomputable def upd (H : Hp) (a : Addr) (o : HO) : Hp := fun b => if b = a then some o else H b
theorem upd_same {H : Hp} {a : Addr} {o : HO} : upd H a o a = some o := by unfold upd; rw [if_pos rfl]
theorem upd_ne {H : Hp} {a b : Addr} {o : HO} (h : b ≠ a) : upd H a o b = H b := by unfold upd; rw [if_neg h]
theorem ne_of {H : Hp} {a b : Addr} {o u : HO} (h : H a = some o) (h' : H b = some u) (d : o ≠ u) : a ≠ b := by
 intro e; subst e; rw [h] at h'; exact d (Option.some.inj h')
theorem ne_of_none {H : Hp} {a b : Addr} {o : HO} (h : H a = some o) (h' : H b = none) : a ≠ b := by
 intro e; subst e; rw [h] at h'; cases h'
section
variable (P : Program) (w : World)
noncomputable def ObjOk (H : Hp) (h : Heap) (a : Addr) : HO → Prop
 | .lst xs => xs.length ≤ sizeLine ∧ ∃ (its : List Value) (n : Nat), Vals xs its ∧ h.get? a = some { cls := .type "list", data := .seq its.toArray n }
 | .tup xs => xs.length ≤ sizeLine ∧ ∃ its : List Value, Vals xs its ∧ IsTup h a its.toArray
 | .dK kvs => kvs.length ≤ sizeLine ∧ (a == sysModules) = false ∧ ∃ vs, KV kvs vs ∧ h.DictOf (mixKind P w) a vs
 | .dT kvs => kvs.length ≤ sizeLine ∧ (a == sysModules) = false ∧ ∃ xs : List (List Key × Addr × Value),
   Paired (fun (p : List Key × V) (q : List Key × Addr × Value) => p.1 = q.1 ∧ H q.2.1 = some (.tup (p.1.map kV)) ∧ RelV p.2 q.2.2) kvs xs ∧
   ∃ o es ep, h.get? a = some o ∧ o.ExactDict ∧ o.data = .dict es ep ∧ es.toList = xs.map (entryOfKey (tupleKind (mixKind P w))) ∧ (xs.map (·.1)).Nodup
 | .set S n => h.SetOf (intKind P w) a S n
 | .ins C dx fs => H dx = some (.own a) ∧ fs.length ≤ 1000 ∧ dx ≠ a ∧ h.get? a = some (PySem.W.instObj C dx) ∧
   ∃ mA, h.Ns1 dx mA ∧ (∀ f, RelO (fs.lookup f) (mA f)) ∧ PySem.Within mA (fs.map (·.1))
 | .own _ => ∃ o, h.get? a = some o
 | .xd fs => ∃ mA, h.Ns1 a mA ∧ ∀ f, RelO (fs.lookup f) (mA f)
 | .rng lo hi => ∃ t u v, h.get? a = some { cls := .type "range", data := .fields #[.int lo t, .int hi u, .int 1 v] }
 | .frz o u => h.get? a = some o ∧ ObjOk H h a u
 | .tbl ps => h.get? a = some { cls := .none, data := .fields ps }
 | .met f x => h.get? a = some (PySem.W.methodObj (.ref f) (.ref x))
 | .ext φ => φ h ∧ (∃ o, h.get? a = some o) ∧ ∀ h1 h2 : Heap, φ h1 → (∀ o, h1.get? a = some o → h2.get? a = some o) → φ h2
noncomputable def HOk (H : Hp) (h : Heap) : Prop := ∀ a o, H a = some o → ObjOk P w H h a o
end
section
variable {P : Program} {w : World} {H H' : Hp} {h h' : Heap} {a : Addr} {o : HO}
theorem ObjOk.lt (x : ObjOk P w H h a o) : a < h.objs.size := by
 cases o with
 | lst xs => obtain ⟨_, _, _, _, e⟩ := x; exact Heap.lt_size e
 | tup xs => obtain ⟨_, _, _, p⟩ := x; exact p.lt
 | dK kvs => obtain ⟨_, _, _, _, o, _, _, e, _⟩ := x; exact Heap.lt_size e
 | dT kvs => obtain ⟨_, _, _, _, o, _, _, e, _⟩ := x; exact Heap.lt_size e
 | set S n => obtain ⟨o, _, _, _, e, _⟩ := x; exact Heap.lt_size e
 | ins C dx fs => obtain ⟨_, _, _, e, _⟩ := x; exact Heap.lt_size e
 | own y => obtain ⟨_, e⟩ := x; exact Heap.lt_size e
 | xd fs => obtain ⟨_, ⟨_, _, _, e, _⟩, _⟩ := x; exact Heap.lt_size e
 | rng lo hi => obtain ⟨_, _, _, e⟩ := x; exact Heap.lt_size e
 | frz ob u => obtain ⟨e, _⟩ := x; exact Heap.lt_size e
 | tbl ps => exact Heap.lt_size (show h.get? a = some _ from x)
 | met f y => exact Heap.lt_size (show h.get? a = some _ from x)
 | ext φ => obtain ⟨_, ⟨_, e⟩, _⟩ := x; exact Heap.lt_size e
theorem Paired.mapP {α β : Type} {F G : α → β → Prop} : ∀ {l₁ : List α} {l₂ : List β}, Paired F l₁ l₂ → (∀ a b, F a b → G a b) → Paired G l₁ l₂
 | _, _, .nil, _ => .nil
 | _, _, .cons r t, f => .cons (f _ _ r) (Paired.mapP t f)
theorem ObjOk.stay (x : ObjOk P w H h a o) (k : ∀ b u, (b = a ∨ H b = some (.own a)) → h.get? b = some u → h'.get? b = some u)
  (ho : ∀ b, H b = some (.own a) → H' b = some (.own a)) (ht : ∀ b xs, H b = some (.tup xs) → H' b = some (.tup xs)) : ObjOk P w H' h' a o := by
 induction o with
 | lst xs => obtain ⟨z, its, n, r, e⟩ := x; exact ⟨z, its, n, r, k _ _ (.inl rfl) e⟩
 | tup xs => obtain ⟨z, its, r, ob, e, c⟩ := x; exact ⟨z, its, r, ob, k _ _ (.inl rfl) e, c⟩
 | dK kvs => obtain ⟨z, y, vs, r, ob, es, ep, e, c⟩ := x; exact ⟨z, y, vs, r, ob, es, ep, k _ _ (.inl rfl) e, c⟩
 | dT kvs =>
  obtain ⟨z, y, xs, r, ob, es, ep, e, c⟩ := x
  exact ⟨z, y, xs, Paired.mapP r fun p q z => ⟨z.1, ht _ _ z.2.1, z.2.2⟩, ob, es, ep, k _ _ (.inl rfl) e, c⟩
 | set S n => obtain ⟨ob, es, ep, t, e, c⟩ := x; exact ⟨ob, es, ep, t, k _ _ (.inl rfl) e, c⟩
 | ins C dx fs =>
  obtain ⟨d, z, ne, e, mA, ⟨od, es, ep, e2, c⟩, r⟩ := x
  exact ⟨ho _ d, z, ne, k _ _ (.inl rfl) e, mA, ⟨od, es, ep, k _ _ (.inr d) e2, c⟩, r⟩
 | own y => obtain ⟨ob, e⟩ := x; exact ⟨ob, k _ _ (.inl rfl) e⟩
 | xd fs => obtain ⟨mA, ⟨od, es, ep, e, c⟩, r⟩ := x; exact ⟨mA, ⟨od, es, ep, k _ _ (.inl rfl) e, c⟩, r⟩
 | rng lo hi => obtain ⟨t, u, v, e⟩ := x; exact ⟨t, u, v, k _ _ (.inl rfl) e⟩
 | frz ob u ih => obtain ⟨e, q⟩ := x; exact ⟨k _ _ (.inl rfl) e, ih q⟩
 | tbl ps =>
  have e : h.get? a = some { cls := .none, data := .fields ps } := x
  show h'.get? a = some { cls := .none, data := .fields ps }
  exact k a _ (.inl rfl) e
 | met f y =>
  have e : h.get? a = some (PySem.W.methodObj (.ref f) (.ref y)) := x
  show h'.get? a = some (PySem.W.methodObj (.ref f) (.ref y))
  exact k a _ (.inl rfl) e
 | ext φ => obtain ⟨p, ⟨o, e⟩, st⟩ := x; exact ⟨st _ _ p fun o q => k _ _ (.inl rfl) q, ⟨o, k _ _ (.inl rfl) e⟩, st⟩
theorem HOk.lt (x : HOk P w H h) (e : H a = some o) : a < h.objs.size := (x a o e).lt
theorem HOk.fresh (x : HOk P w H h) (e : h.objs.size ≤ a) : H a = none := by
 cases q : H a with
 | none => rfl
 | some u => exact absurd (Nat.lt_of_lt_of_le (x.lt q) e) (Nat.lt_irrefl _)
theorem HOk.kept (x : HOk P w H h) (k : ∀ b u, h.get? b = some u → h'.get? b = some u) : HOk P w H h' := fun a o e =>
 (x a o e).stay (fun b u _ q => k b u q) (fun _ q => q) fun _ _ q => q
theorem HOk.laid (x : HOk P w H h) (k : ∀ b u, h.get? b = some u → h'.get? b = some u) (hp : h.objs.size ≤ a) (new : ObjOk P w (upd H a o) h' a o) : HOk P w (upd H a o) h' := fun b u e => by
 have hn := x.fresh hp
 by_cases hb : b = a
 ·subst hb; rw [upd_same] at e; cases e; exact new
 ·rw [upd_ne hb] at e
  exact (x b u e).stay (fun c v _ q => k c v q) (fun c q => by rw [upd_ne (ne_of_none q hn)]; exact q) fun c xs q => by rw [upd_ne (ne_of_none q hn)]; exact q
end
noncomputable def Rd (H : Hp) (a : Addr) (u : HO) : Prop := H a = some u ∨ ∃ o, H a = some (.frz o u)
theorem Rd.of {H : Hp} {a : Addr} {u : HO} (h : H a = some u) : Rd H a u := .inl h
theorem Rd.ok {P : Program} {w : World} {H : Hp} {h : Heap} {a : Addr} {u : HO} (r : Rd H a u) (x : HOk P w H h) : ObjOk P w H h a u := by
 rcases r with r | ⟨o, r⟩
 ·exact x a u r
 ·obtain ⟨_, q⟩ := x a _ r
  exact q
noncomputable def Mut : Option HO → Prop
 | some (.lst _) => True
 | some (.dK _) => True
 | some (.dT _) => True
 | some (.set _ _) => True
 | some (.ins _ _ _) => True
 | some (.ext _) => True
 | _ => False
section
variable {P : Program} {w : World} {H : Hp} {h h' : Heap} {x e : Addr} {o' : HO}
theorem HOk.write (ok : HOk P w H h) (mu : Mut (H x)) (he : e = x ∨ H e = some (.own x)) (k : ∀ b u, b ≠ e → h.get? b = some u → h'.get? b = some u) (heo : ∃ u, h'.get? e = some u)
  (new : ObjOk P w (upd H x o') h' x o') : HOk P w (upd H x o') h' := fun b u q => by
 have nown : ∀ c y, H c = some (.own y) → c ≠ x := fun c y r z => by subst z; rw [r] at mu; exact mu
 have ntup : ∀ c xs, H c = some (.tup xs) → c ≠ x := fun c xs r z => by subst z; rw [r] at mu; exact mu
 by_cases hb : b = x
 ·subst hb; rw [upd_same] at q; cases q; exact new
 ·rw [upd_ne hb] at q
  by_cases hbe : b = e
  ·have q' : H b = some (.own x) := by
    rcases he with z | z
    ·exact absurd (hbe.trans z) hb
    ·rw [hbe]; exact z
   rw [q] at q'; cases q'
   obtain ⟨v, hv⟩ := heo
   exact ⟨v, by rw [hbe]; exact hv⟩
  ·refine (ok b u q).stay (fun c v hc r => k c v ?_ r) (fun c r => by rw [upd_ne (nown c b r)]; exact r) fun c xs r => by rw [upd_ne (ntup c xs r)]; exact r
   rcases hc with rfl | hc
   ·exact hbe
   ·rintro rfl
    rcases he with z | z
    ·exact nown c b hc z
    ·rw [hc] at z; cases z; exact hb rfl
end
structure Un (fs ex : List Addr) (H H' : Hp) (h h' : Heap) : Prop where
 keep : ∀ b o, h.get? b = some o → H b = none → b ∉ fs → b ∉ ex → h'.get? b = some o
 slot : ∀ b o, h.get? b = some o → H b = none → b ∈ fs → b ∉ ex → ∃ sl, h'.get? b = some { o with slots := sl }
 free : ∀ b o, h.get? b = some o → H b = none → b ∉ ex → H' b = none
 there : ∀ b o, h.get? b = some o → b ∉ ex → ∃ o', h'.get? b = some o'
 tups : ∀ b xs, H b = some (.tup xs) → H' b = some (.tup xs)
 frzs : ∀ b o u, H b = some (.frz o u) → H' b = some (.frz o u)
 tbls : ∀ b ps, H b = some (.tbl ps) → ∃ more, H' b = some (.tbl (ps ++ more))
section
variable {fs fs' ex ex' : List Addr} {H H1 H2 : Hp} {h h1 h2 h' : Heap} {a x e : Addr} {o : HO}
theorem Un.any (u : Un fs ex H H1 h h1) {b : Addr} {ob : Obj} (q : h.get? b = some ob) (n : H b = none) (hx : b ∉ ex) : ∃ sl, h1.get? b = some { ob with slots := sl } := by
 by_cases hb : b ∈ fs
 ·exact u.slot b ob q n hb hx
 ·exact ⟨ob.slots, u.keep b ob q n hb hx⟩
theorem Un.trans (a : Un fs ex H H1 h h1) (b : Un fs ex H1 H2 h1 h2) : Un fs ex H H2 h h2 where
 keep := fun c ob q n hc hx => b.keep c ob (a.keep c ob q n hc hx) (a.free c ob q n hx) hc hx
 slot := fun c ob q n hc hx => by
  obtain ⟨sl, e1⟩ := a.slot c ob q n hc hx
  obtain ⟨sl', e2⟩ := b.slot c _ e1 (a.free c ob q n hx) hc hx
  exact ⟨sl', e2⟩
 free := fun c ob q n hx => by
  obtain ⟨o', e1⟩ := a.there c ob q hx
  exact b.free c o' e1 (a.free c ob q n hx) hx
 there := fun c ob q hx => by
  obtain ⟨o', e1⟩ := a.there c ob q hx
  exact b.there c o' e1 hx
 tups := fun c xs q => b.tups c xs (a.tups c xs q)
 frzs := fun c ob xs q => b.frzs c ob xs (a.frzs c ob xs q)
 tbls := fun c ps q => by
  obtain ⟨m1, e1⟩ := a.tbls c ps q
  obtain ⟨m2, e2⟩ := b.tbls c _ e1
  exact ⟨m1 ++ m2, by rw [e2, Array.append_assoc]⟩
theorem Un.kept (k : ∀ b u, h.get? b = some u → h'.get? b = some u) : Un fs ex H H h h' :=
 ⟨fun b ob q _ _ _ => k b ob q, fun b ob q _ _ _ => ⟨ob.slots, k b ob q⟩, fun _ _ _ n _ => n, fun b ob q _ => ⟨ob, k b ob q⟩, fun _ _ q => q, fun _ _ _ q => q, fun _ ps q => ⟨#[], by rw [q]; simp⟩⟩
theorem Un.refl : Un fs ex H H h h := Un.kept fun _ _ q => q
theorem Un.laid (k : ∀ b u, h.get? b = some u → h'.get? b = some u) (hp : h.objs.size ≤ a) (hn : H a = none) : Un fs ex H (upd H a o) h h' where
 keep := fun b u q _ _ _ => k b u q
 slot := fun b u q _ _ _ => ⟨u.slots, k b u q⟩
 free := fun b u q n _ => by rw [upd_ne (Nat.ne_of_lt (Nat.lt_of_lt_of_le (Heap.lt_size q) hp))]; exact n
 there := fun b u q _ => ⟨u, k b u q⟩
 tups := fun b xs q => by rw [upd_ne (ne_of_none q hn)]; exact q
 frzs := fun b u xs q => by rw [upd_ne (ne_of_none q hn)]; exact q
 tbls := fun b ps q => ⟨#[], by rw [upd_ne (ne_of_none q hn), q]; simp⟩
theorem Un.write (mu : Mut (H x)) (he : e = x ∨ H e = some (.own x)) (k : ∀ b u, b ≠ e → h.get? b = some u → h'.get? b = some u) (heo : ∃ u, h'.get? e = some u) : Un fs ex H (upd H x o) h h' := by
 have hx : ∀ b, H b = none → b ≠ x := fun b n z => by subst z; rw [n] at mu; exact mu
 have hb : ∀ b, H b = none → b ≠ e := fun b n z => by
  subst z
  rcases he with r | r
  ·exact hx b n r
  ·rw [n] at r; cases r
 have hm : ∀ b u, H b = some u → ¬ Mut (some u) → b ≠ x := fun b u q nm z => by subst z; rw [q] at mu; exact nm mu
 refine ⟨fun b u q n _ _ => k b u (hb b n) q, fun b u q n _ _ => ⟨u.slots, k b u (hb b n) q⟩, fun b u q n _ => by rw [upd_ne (hx b n)]; exact n, fun b u q _ => ?_,
  fun b xs q => by rw [upd_ne (hm b _ q fun z => z)]; exact q, fun b u xs q => by rw [upd_ne (hm b _ q fun z => z)]; exact q, fun b ps q => ⟨#[], by rw [upd_ne (hm b _ q fun z => z), q]; simp⟩⟩
 by_cases hbe : b = e
 ·subst hbe; exact heo
 ·exact ⟨u, k b u hbe q⟩
theorem Un.mono (u : Un fs ex H H1 h h1) (hs : ∀ b ∈ fs, b ∈ fs') (hx : ∀ b ∈ ex, b ∈ ex') : Un fs' ex' H H1 h h1 :=
 ⟨fun b ob q n hb he => u.keep b ob q n (fun z => hb (hs b z)) fun z => he (hx b z), fun _ _ q n _ he => u.any q n fun z => he (hx _ z), fun b ob q n he => u.free b ob q n fun z => he (hx b z), fun b ob q he => u.there b ob q fun z => he (hx b z), u.tups, u.frzs, u.tbls⟩
end
noncomputable def trk (h : Heap) (H : Hp) : List Addr := (List.range h.objs.size).filter fun a => (H a).isSome
noncomputable def hidT (h : Heap) (H : Hp) : Heap := PySem.W.hideAll h (trk h H)
theorem hidT_size (h : Heap) (H : Hp) : (hidT h H).objs.size = h.objs.size := PySem.W.hideAll_size _ _
theorem hidT_get {h : Heap} {H : Hp} {b : Addr} {o : Obj} (e : h.get? b = some o) (n : H b = none) : (hidT h H).get? b = some o :=
 PySem.W.hideAll_get _ e fun hm => by
  have q : (H b).isSome = true := (List.mem_filter.mp hm).2
  rw [n] at q; simp at q
theorem of_hidT {h : Heap} {H : Hp} {b : Addr} {o : Obj} (e : (hidT h H).get? b = some o) : h.get? b = some o ∧ H b = none := by
 have e' : h.get? b = some o := PySem.W.of_hideAll (trk h H) e
 refine ⟨e', ?_⟩
 cases q : H b with
 | none => rfl
 | some x =>
  have hm : b ∈ trk h H := List.mem_filter.mpr ⟨List.mem_range.mpr (Heap.lt_size e'), by simp [q]⟩
  have z : (hidT h H).get? b = none := PySem.W.hideAll_none (trk h H) hm
  rw [z] at e; cases e
noncomputable def allNews (g h : Heap) (L : Addr) : List (Addr × Obj) := (List.range h.objs.size).filterMap fun a => if a = L ∨ (g.get? a).isSome = true then none else (h.get? a).map fun o => (a, o)
noncomputable def rest (g h : Heap) (L d : Addr) : List (Addr × Obj) := (allNews g h L).filter fun p => decide (p.1 ≠ d)
end L2
namespace L2
open PySem PySem.Spec PyProof.Rows
structure Mod (K : PySem.W.Frag) (mg : Str → Option Value) (base : Heap) : Prop where
 kin : K.In base
 glob : base.Ns mainGlobals mg
 blt : ∃ mb, base.Ns builtinsNs mb ∧ ∀ x : Str, x ≠ "__name__" → mb x = bootBuiltins x
 nolimit : base.NoLimit
structure Cx where
 prog : Program
 w : World
 K : PySem.W.Frag
 mg : Str → Option Value
 base : Heap
 A : Around
 N : List Str
 s₀ : Shared
 H₀ : Hp
 env : Env
 outer : List Env
 stack : List Env
 ex : List Addr
 fn : Str → Bool
 calm : Bool
 pn : List (Addr × Obj)
 xe : Value → Shared → Prop
noncomputable def frs (l : List Env) : List Addr := l.filterMap (·.frame)
noncomputable abbrev Cx.fs (X : Cx) : List Addr := frs X.outer
noncomputable def Vis (sc : Scope) (x : Str) : Prop := sc.names.lookup x = some .local ∨ sc.names.lookup x = some .cell ∨ sc.names.lookup x = some .free
noncomputable def Loc (sc : Scope) (x : Str) : Prop := sc.names.lookup x = some .local ∨ sc.names.lookup x = some .cell
noncomputable def Look (env : Env) (h : Heap) (m : Str → Option Value) (x : Str) (u : Value) : Prop :=
 (env.kindOf x = some .local ∧ m x = some u) ∨ ((env.kindOf x = some .cell ∨ env.kindOf x = some .free) ∧ ∃ c, env.cells.lookup x = some c ∧ h.IsCell c (some u))
structure Cx.Ok (X : Cx) : Prop where
 mod : Mod X.K X.mg X.base
 kind : X.env.scope.kind = .function
 glob : X.env.globals = mainGlobals
 blt : X.env.builtins = builtinsNs
 above : X.s₀.heap.objs.size ≤ X.env.locals
 inj : ∀ x y c, X.env.cells.lookup x = some c → X.env.cells.lookup y = some c → x = y
 has : ∀ x, (X.env.kindOf x = some .cell ∨ X.env.kindOf x = some .free) → ∃ c, X.env.cells.lookup x = some c
 cab : ∀ x c, X.fn x = true → X.env.cells.lookup x = some c → X.s₀.heap.objs.size ≤ c
 hd : X.calm = true → X.A.handled = none
 frames : X.A.frames = some X.stack
 stk : X.stack = X.outer ∨ (X.stack = X.env :: X.outer ∧ X.env.frame = some X.env.locals)
 exf : ∀ b ∈ X.ex, b ≠ X.env.locals ∧ ∀ x c, X.env.cells.lookup x = some c → c ≠ b
 bs : ∀ b o, X.base.get? b = some o → X.s₀.heap.get? b = some o ∧ X.H₀ b = none
 bsz : X.base.objs.size ≤ X.s₀.heap.objs.size
 noex : ∀ b o, X.base.get? b = some o → b ∉ X.ex
 exfs : ∀ b ∈ X.ex, b ∉ X.fs
 funs : X.s₀.heap.FunFrames X.base X.outer
 frf : ∀ b ∈ X.fs, X.H₀ b = none
structure Inv (X : Cx) (pins : List (Addr × Obj)) (σ : List (Option V)) (H : Hp) (s : Shared) : Prop where
 ok : X.Ok
 os : s.os = X.s₀.os
 bare : AllBare s.gens
 base : Un X.fs X.ex X.H₀ H X.s₀.heap s.heap
 loc : ∃ m, s.heap.Ns X.env.locals m ∧ ∀ (i : Nat) (x : Str) (v : V), X.N[i]? = some x → σ[i]? = some (some v) → Vis X.env.scope x → ∃ u, RelV v u ∧ Look X.env s.heap m x u
 cell : ∀ x c, X.env.cells.lookup x = some c → ∃ v, s.heap.IsCell c v
 free : H X.env.locals = none
 freeC : ∀ x c, X.env.cells.lookup x = some c → H c = none
 pin : ∀ p ∈ X.pn ++ pins, s.heap.get? p.1 = some p.2 ∧ H p.1 = none ∧ p.1 ≠ X.env.locals ∧ p.1 ∉ X.fs ∧ ∀ v, p.2.data ≠ .cell v
 hok : HOk X.prog X.w H s.heap
 len : σ.length = X.N.length
section
variable {X : Cx} {pins : List (Addr × Obj)} {σ : List (Option V)} {H H' : Hp} {s : Shared} {h' : Heap}
theorem Cx.Ok.nofr (ok : X.Ok) {b : Addr} {o : Obj} (e : X.base.get? b = some o) : b ∉ X.fs := fun hb => by
 have := (ok.funs.mem hb).1
 rw [e] at this; cases this
theorem Inv.bs (I : Inv X pins σ H s) : ∀ b o, X.base.get? b = some o → s.heap.get? b = some o ∧ H b = none := fun b o e =>
 ⟨I.base.keep b o (I.ok.bs b o e).1 (I.ok.bs b o e).2 (I.ok.nofr e) (I.ok.noex b o e), I.base.free b o (I.ok.bs b o e).1 (I.ok.bs b o e).2 (I.ok.noex b o e)⟩
theorem Inv.bk (I : Inv X pins σ H s) : ∀ b o, X.base.get? b = some o → s.heap.get? b = some o := fun b o e => (I.bs b o e).1
theorem Inv.mod (I : Inv X pins σ H s) : Mod X.K X.mg X.base := I.ok.mod
theorem Inv.kIn (I : Inv X pins σ H s) : X.K.In s.heap := I.ok.mod.kin.keeps I.bk
theorem Inv.nolimit (I : Inv X pins σ H s) : s.heap.NoLimit := I.ok.mod.nolimit.keeps I.bk
theorem Inv.fr (I : Inv X pins σ H s) : ∃ m, Fr X.base X.env.locals s.heap m :=
 let ⟨m, hn, _⟩ := I.loc
 ⟨m, hn, I.bk, Nat.le_trans I.ok.bsz I.ok.above⟩
theorem Inv.lt (I : Inv X pins σ H s) : X.env.locals < s.heap.objs.size := let ⟨_, hn, _⟩ := I.loc; hn.lt
theorem Inv.sz (I : Inv X pins σ H s) : X.s₀.heap.objs.size ≤ s.heap.objs.size := Nat.le_trans I.ok.above (Nat.le_of_lt I.lt)
theorem Inv.nofs (I : Inv X pins σ H s) {a : Addr} (h : s.heap.objs.size ≤ a) : a ∉ X.fs := fun hb => by
 obtain ⟨_, o, ho, _⟩ := I.ok.funs.mem hb
 exact absurd (Nat.lt_of_lt_of_le (Heap.lt_size ho) (Nat.le_trans I.sz h)) (Nat.lt_irrefl _)
theorem Inv.cne (I : Inv X pins σ H s) : ∀ x c, X.env.cells.lookup x = some c → c ≠ X.env.locals := fun x c e z => by
 obtain ⟨v, o, ho, hd⟩ := I.cell x c e
 obtain ⟨m, ⟨o', es, ep, ho', hd', _⟩, _⟩ := I.loc
 rw [z, ho'] at ho; cases ho; rw [hd'] at hd; cases hd
theorem Inv.funs (I : Inv X pins σ H s) : s.heap.FunFrames X.base X.outer := by
 have all : ∀ (l : List Env), (∀ b ∈ frs l, b ∈ X.fs) → X.s₀.heap.FunFrames X.base l → s.heap.FunFrames X.base l := by
  intro l
  induction l with
  | nil => intro _ _; trivial
  | cons env r ih =>
   intro hs hl
   obtain ⟨hk, ⟨L, o, hf, hn, ho, hd⟩, hr⟩ := hl
   have hL : L ∈ X.fs := hs L (by unfold frs; rw [List.filterMap_cons, hf]; exact List.mem_cons_self)
   obtain ⟨sl, e⟩ := I.base.slot L o ho (I.ok.frf L hL) hL fun z => I.ok.exfs L z hL
   exact ⟨hk, ⟨L, _, hf, hn, e, hd⟩, ih (fun b hb => hs b (by unfold frs; rw [List.filterMap_cons, hf]; exact List.mem_cons_of_mem _ hb)) hr⟩
 exact all X.outer (fun _ hb => hb) I.ok.funs
theorem Inv.stack (I : Inv X pins σ H s) : s.heap.FunFrames X.base X.stack := by
 rcases I.ok.stk with e | ⟨e, hf⟩
 ·rw [e]; exact I.funs
 ·rw [e]
  obtain ⟨m, hn, _⟩ := I.loc
  refine .cons (by rw [I.ok.kind]; decide) hf hn ?_ I.funs
  exact Heap.get?_none_of_le (Nat.le_trans I.ok.bsz I.ok.above)
theorem Inv.stkSub (I : Inv X pins σ H s) : ∀ b ∈ frs X.stack, b ∈ X.env.locals :: X.fs := fun b hb => by
 rcases I.ok.stk with e | ⟨e, hf⟩
 ·rw [e] at hb; exact List.mem_cons_of_mem _ hb
 ·rw [e] at hb
  unfold frs at hb
  rw [List.filterMap_cons, hf] at hb
  exact hb
theorem Inv.stkFree (I : Inv X pins σ H s) : ∀ b ∈ frs X.stack, H b = none := fun b hb => by
 rcases List.mem_cons.mp (I.stkSub b hb) with e | hb
 ·rw [e]; exact I.free
 ·obtain ⟨_, o, ho, _⟩ := I.ok.funs.mem hb
  exact I.base.free b o ho (I.ok.frf b hb) fun z => I.ok.exfs b z hb
theorem Inv.step {g' : Array GenState} {t' : Nat} {d' : Drawn} {ch : List Addr} (I : Inv X pins σ H s)
  (hch : ∀ b ∈ ch, (b ∈ X.ex ∨ X.s₀.heap.objs.size ≤ b) ∧ b ≠ X.env.locals ∧ (∀ x c, X.env.cells.lookup x = some c → c ≠ b) ∧ ∀ p ∈ X.pn ++ pins, p.1 ≠ b)
  (keep : ∀ b o, b ≠ X.env.locals → b ∉ X.fs → b ∉ ch → s.heap.get? b = some o → H b = none → h'.get? b = some o)
  (slot : ∀ b o, b ≠ X.env.locals → b ∈ X.fs → b ∉ ch → s.heap.get? b = some o → H b = none → ∃ sl, h'.get? b = some { o with slots := sl }) (free : ∀ b o, b ∉ ch → s.heap.get? b = some o → H b = none → H' b = none)
  (there : ∀ b o, b ∉ ch → s.heap.get? b = some o → ∃ o', h'.get? b = some o')
  (tups : ∀ b xs, H b = some (.tup xs) → H' b = some (.tup xs)) (frzs : ∀ b o u, H b = some (.frz o u) → H' b = some (.frz o u)) (tbls : ∀ b ps, H b = some (.tbl ps) → ∃ more, H' b = some (.tbl (ps ++ more)))
  (ns : ∀ m, s.heap.Ns X.env.locals m → h'.Ns X.env.locals m) (hok : HOk X.prog X.w H' h') (hg : AllBare g') :
  Inv X pins σ H' { s with heap := h', gens := g', drawn := d', toks := t' } := by
 have neL : ∀ b o, X.s₀.heap.get? b = some o → b ≠ X.env.locals := fun b o e => Nat.ne_of_lt (Nat.lt_of_lt_of_le (Heap.lt_size e) I.ok.above)
 have neC : ∀ b o, X.s₀.heap.get? b = some o → b ∉ X.ex → b ∉ ch := fun b o e hx hb => by
  rcases (hch b hb).1 with z | z
  ·exact hx z
  ·exact absurd (Nat.lt_of_lt_of_le (Heap.lt_size e) z) (Nat.lt_irrefl _)
 have cellK : ∀ x c, X.env.cells.lookup x = some c → ∀ v, s.heap.IsCell c v → h'.IsCell c v := fun x c e v ⟨o, ho, hd⟩ => by
  have nch : c ∉ ch := fun z => (hch c z).2.2.1 x c e rfl
  by_cases hc : c ∈ X.fs
  ·obtain ⟨sl, q⟩ := slot c o (I.cne x c e) hc nch ho (I.freeC x c e)
   exact ⟨_, q, hd⟩
  ·exact ⟨o, keep c o (I.cne x c e) hc nch ho (I.freeC x c e), hd⟩
 refine ⟨I.ok, I.os, hg, ⟨fun b o e n hb hx => ?_, fun b o e n hb hx => ?_, fun b o e n hx => ?_, fun b o e hx => ?_, fun b xs e => tups b xs (I.base.tups b xs e), fun b o xs e => frzs b o xs (I.base.frzs b o xs e), fun b ps e => ?_⟩, ?_, fun x c e => ?_, ?_, fun x c e => ?_, fun p hp => ?_, hok, I.len⟩
 ·exact keep b o (neL b o e) hb (neC b o e hx) (I.base.keep b o e n hb hx) (I.base.free b o e n hx)
 ·obtain ⟨sl, e1⟩ := I.base.slot b o e n hb hx
  obtain ⟨sl', e2⟩ := slot b _ (neL b o e) hb (neC b o e hx) e1 (I.base.free b o e n hx)
  exact ⟨sl', e2⟩
 ·obtain ⟨o', e1⟩ := I.base.there b o e hx
  exact free b o' (neC b o e hx) e1 (I.base.free b o e n hx)
 ·obtain ⟨o', e1⟩ := I.base.there b o e hx
  exact there b o' (neC b o e hx) e1
 ·obtain ⟨m1, e1⟩ := I.base.tbls b ps e
  obtain ⟨m2, e2⟩ := tbls b _ e1
  exact ⟨m1 ++ m2, by rw [e2, Array.append_assoc]⟩
 ·obtain ⟨m, hn, hl⟩ := I.loc
  refine ⟨m, ns m hn, fun i x v e1 e2 e3 => ?_⟩
  obtain ⟨u, r, l⟩ := hl i x v e1 e2 e3
  refine ⟨u, r, ?_⟩
  rcases l with l | ⟨k, c, e, z⟩
  ·exact .inl l
  ·exact .inr ⟨k, c, e, cellK x c e _ z⟩
 ·obtain ⟨v, z⟩ := I.cell x c e
  exact ⟨v, cellK x c e v z⟩
 ·obtain ⟨m, ⟨o, _, _, ho, _⟩, _⟩ := I.loc
  exact free _ o (fun z => (hch _ z).2.1 rfl) ho I.free
 ·obtain ⟨v, o, ho, hd⟩ := I.cell x c e
  exact free c o (fun z => (hch c z).2.2.1 x c e rfl) ho (I.freeC x c e)
 ·obtain ⟨e, n, ne, nf, d⟩ := I.pin p hp
  have nch : p.1 ∉ ch := fun z => (hch p.1 z).2.2.2 p hp rfl
  exact ⟨keep p.1 p.2 ne nf nch e n, free p.1 p.2 nch e n, ne, nf, d⟩
theorem Inv.un {t' : Nat} (I : Inv X pins σ H s) (u : Un X.fs [] H H' s.heap h') (hok : HOk X.prog X.w H' h') : Inv X pins σ H' { s with heap := h', toks := t' } := by
 obtain ⟨m, ⟨o, es, ep, ho, r⟩, _⟩ := id I.loc
 obtain ⟨sl, hL⟩ := u.any ho I.free (by simp)
 exact I.step (g' := s.gens) (d' := s.drawn) (ch := []) (fun _ z => nomatch z) (fun b o _ hb _ e n => u.keep b o e n hb (by simp)) (fun b o _ hb _ e n => u.slot b o e n hb (by simp)) (fun b o _ e n => u.free b o e n (by simp)) (fun b o _ e => u.there b o e (by simp)) u.tups u.frzs u.tbls (fun m' hm => by
  obtain ⟨o', es', ep', ho', r'⟩ := hm
  rw [ho] at ho'; cases ho'
  exact ⟨_, es', ep', hL, r'⟩) hok I.bare
theorem Inv.call {g' : Array GenState} {t' : Nat} {d' : Drawn} {ch : List Addr} (I : Inv X pins σ H s) (u : Un (frs X.stack) ch H H' s.heap h') (hok : HOk X.prog X.w H' h') (hg : AllBare g')
  (hch : ∀ b ∈ ch, (b ∈ X.ex ∨ X.s₀.heap.objs.size ≤ b) ∧ b ≠ X.env.locals ∧ (∀ x c, X.env.cells.lookup x = some c → c ≠ b) ∧ ∀ p ∈ X.pn ++ pins, p.1 ≠ b) :
  Inv X pins σ H' { s with heap := h', gens := g', drawn := d', toks := t' } := by
 obtain ⟨m, ⟨o, es, ep, ho, r⟩, _⟩ := id I.loc
 obtain ⟨sl, hL⟩ := u.any ho I.free fun z => (hch _ z).2.1 rfl
 exact I.step (ch := ch) hch (fun b o hL hb hc e n => u.keep b o e n (fun z => (List.mem_cons.mp (I.stkSub b z)).elim hL hb) hc) (fun b o _ _ hc e n => u.any e n hc) (fun b o hc e n => u.free b o e n hc) (fun b o hc e => u.there b o e hc) u.tups u.frzs u.tbls (fun m' hm => by
  obtain ⟨o', es', ep', ho', r'⟩ := hm
  rw [ho] at ho'; cases ho'
  exact ⟨_, es', ep', hL, r'⟩) hok hg
theorem Inv.turned {t' : Nat} {it : Addr} (I : Inv X pins σ H s) (k : ∀ b o, b ≠ it → s.heap.get? b = some o → h'.get? b = some o) (hn : H it = none) (hL : it ≠ X.env.locals)
  (h1 : it ∈ X.ex ∨ X.s₀.heap.objs.size ≤ it) (h2 : ∀ x c, X.env.cells.lookup x = some c → c ≠ it) (h3 : ∀ p ∈ X.pn ++ pins, p.1 ≠ it) : Inv X pins σ H { s with heap := h', toks := t' } := by
 have nit : ∀ b u, H b = some u → b ≠ it := fun b u e z => by rw [z, hn] at e; cases e
 refine I.step (g' := s.gens) (d' := s.drawn) (ch := [it]) (fun b hb => ?_) (fun b o _ _ hc e _ => k b o (fun z => hc (by simp [z])) e) (fun b o _ _ hc e _ => ⟨o.slots, k b o (fun z => hc (by simp [z])) e⟩) (fun _ _ _ _ n => n)
  (fun b o hc e => ⟨o, k b o (fun z => hc (by simp [z])) e⟩) (fun _ _ e => e) (fun _ _ _ e => e) (fun b ps e => ⟨#[], by rw [e]; simp⟩) (fun m hm => ?_) (fun b u e => ?_) I.bare
 ·have e : b = it := by simpa using hb
  subst e
  exact ⟨h1, hL, h2, h3⟩
 ·obtain ⟨o, es, ep, ho, r⟩ := hm
  exact ⟨o, es, ep, k _ o (Ne.symm hL) ho, r⟩
 ·refine (I.hok b u e).stay (fun c v hc q => k c v ?_ q) (fun _ q => q) fun _ _ q => q
  rcases hc with z | z
  ·rw [z]; exact nit b u e
  ·exact nit c _ z
theorem Inv.tok (I : Inv X pins σ H s) (t : Nat) : Inv X pins σ H { s with toks := t } := I.un (h' := s.heap) (t' := t) Un.refl I.hok
theorem Inv.kept {t' : Nat} (I : Inv X pins σ H s) (k : ∀ b u, s.heap.get? b = some u → h'.get? b = some u) : Inv X pins σ H { s with heap := h', toks := t' } := I.un (Un.kept k) (I.hok.kept k)
theorem Inv.laid {a : Addr} {o : HO} {t' : Nat} (I : Inv X pins σ H s) (k : ∀ b u, s.heap.get? b = some u → h'.get? b = some u) (hp : s.heap.objs.size ≤ a) (new : ObjOk X.prog X.w (upd H a o) h' a o) :
  Inv X pins σ (upd H a o) { s with heap := h', toks := t' } := I.un (Un.laid k hp (I.hok.fresh hp)) (I.hok.laid k hp new)
theorem Inv.write {x e : Addr} {o : HO} {t' : Nat} (I : Inv X pins σ H s) (mu : Mut (H x)) (he : e = x ∨ H e = some (.own x)) (k : ∀ b u, b ≠ e → s.heap.get? b = some u → h'.get? b = some u) (heo : ∃ u, h'.get? e = some u)
  (new : ObjOk X.prog X.w (upd H x o) h' x o) : Inv X pins σ (upd H x o) { s with heap := h', toks := t' } := I.un (Un.write mu he k heo) (I.hok.write mu he k heo new)
theorem Inv.weak {σ' : List (Option V)} (I : Inv X pins σ H s) (hl : σ'.length = σ.length) (w : ∀ (i : Nat) v, σ'[i]? = some (some v) → σ[i]? = some (some v)) : Inv X pins σ' H s :=
 ⟨I.ok, I.os, I.bare, I.base, let ⟨m, hn, hl'⟩ := I.loc; ⟨m, hn, fun i x v e1 e2 e3 => hl' i x v e1 (w i v e2) e3⟩, I.cell, I.free, I.freeC, I.pin, I.hok, hl.trans I.len⟩
theorem Inv.pins_of {pins' : List (Addr × Obj)} (I : Inv X pins σ H s) (h : ∀ p ∈ pins', s.heap.get? p.1 = some p.2 ∧ H p.1 = none ∧ p.1 ≠ X.env.locals ∧ p.1 ∉ X.fs ∧ ∀ v, p.2.data ≠ .cell v) : Inv X pins' σ H s :=
 ⟨I.ok, I.os, I.bare, I.base, I.loc, I.cell, I.free, I.freeC, fun p hp => (List.mem_append.mp hp).elim (fun z => I.pin p (List.mem_append_left _ z)) (h p), I.hok, I.len⟩
theorem nodup_ix {N : List Str} (hN : N.Nodup) {i j : Nat} {x : Str} (a : N[i]? = some x) (b : N[j]? = some x) : i = j := by
 obtain ⟨h1, e1⟩ := List.getElem?_eq_some_iff.mp a
 obtain ⟨h2, e2⟩ := List.getElem?_eq_some_iff.mp b
 exact (List.getElem_inj hN).mp (e1.trans e2.symm)
theorem store_ok2 {M : Model} {A : Around} {E : Value → Shared → Prop} {i : Nat} {x : Str} {v : V} {u : Value} {Q : Unit → Shared → Prop} (I : Inv X pins σ H s) (hN : X.N.Nodup) (hi : X.N[i]? = some x) (hx : Loc X.env.scope x) (r : RelV v u)
  (h : ∀ s', Inv X pins (σ.set i (some v)) H s' → (∃ a, Heap.SameBut a s.heap s'.heap ∧ (a = X.env.locals ∨ X.env.cells.lookup x = some a)) → Q () s') (hf : X.fn x = true ∨ X.env.scope.names.lookup x = some .local := by first | exact .inl rfl | exact .inr rfl | assumption) : wpAny M A (storeName X.env x u) Q E s := by
 obtain ⟨m, hn, hl⟩ := id I.loc
 have hcls : (X.env.scope.kind == .class || (X.env.scope.kind == .module && X.env.locals != X.env.globals)) = false := by rw [I.ok.kind]; rfl
 have hiσ : i < σ.length := by rw [I.len]; exact (List.getElem?_eq_some_iff.mp hi).1
 have cne := I.cne
 have tracked : ∀ {a : Addr} {h' : Heap}, (∃ o, s.heap.get? a = some o ∧ H a = none) → Heap.SameBut a s.heap h' → HOk X.prog X.w H h' := fun {a h'} ha hs b ob e => by
  obtain ⟨_, _, hfree⟩ := ha
  refine (I.hok b ob e).stay (fun c w' hc q => (hs.2 c ?_).trans q) (fun _ q => q) fun _ _ q => q
  rintro rfl
  rcases hc with rfl | hc
  ·rw [hfree] at e; cases e
  ·rw [hfree] at hc; cases hc
 rcases hx with hk | hk
 ·refine wpAny_storeName_local hk hn (fun h' hn' hs => ?_) hcls
  obtain ⟨oL, _, _, hoL, _⟩ := id hn
  refine h _ ⟨I.ok, I.os, I.bare, ⟨fun b o e n hb hx => ?_, fun b o e n hb hx => ?_, I.base.free, fun b o e hx => ?_, I.base.tups, I.base.frzs, I.base.tbls⟩, ⟨_, hn', fun j y v' e1 e2 e3 => ?_⟩, fun y c e => ?_, I.free, I.freeC, fun p hp => ?_, tracked ⟨oL, hoL, I.free⟩ hs, by simpa using I.len⟩ ⟨_, hs, .inl rfl⟩
  ·exact (hs.2 b (Nat.ne_of_lt (Nat.lt_of_lt_of_le (Heap.lt_size e) I.ok.above))).trans (I.base.keep b o e n hb hx)
  ·obtain ⟨sl, e1⟩ := I.base.slot b o e n hb hx
   exact ⟨sl, (hs.2 b (Nat.ne_of_lt (Nat.lt_of_lt_of_le (Heap.lt_size e) I.ok.above))).trans e1⟩
  ·obtain ⟨o', e1⟩ := I.base.there b o e hx
   exact ⟨o', (hs.2 b (Nat.ne_of_lt (Nat.lt_of_lt_of_le (Heap.lt_size e) I.ok.above))).trans e1⟩
  ·by_cases hj : j = i
   ·subst hj
    rw [hi] at e1; cases e1
    rw [List.getElem?_set_self hiσ] at e2
    cases e2
    exact ⟨u, r, .inl ⟨hk, by simp⟩⟩
   ·rw [List.getElem?_set_ne (Ne.symm hj)] at e2
    obtain ⟨u', r', q⟩ := hl j y v' e1 e2 e3
    refine ⟨u', r', ?_⟩
    rcases q with ⟨k, e⟩ | ⟨k, c, e, z⟩
    ·refine .inl ⟨k, ?_⟩
     have : y ≠ x := fun e => hj (nodup_ix hN e1 (e ▸ hi))
     simp [this, e]
    ·exact .inr ⟨k, c, e, z.sameBut hs (cne y c e)⟩
  ·obtain ⟨w', z⟩ := I.cell y c e
   exact ⟨w', z.sameBut hs (cne y c e)⟩
  ·obtain ⟨e, n, ne, nf, d⟩ := I.pin p hp
   exact ⟨(hs.2 p.1 ne).trans e, n, ne, nf, d⟩
 ·have hfn : X.fn x = true := by
   rcases hf with z | z
   ·exact z
   ·rw [z] at hk; cases hk
  obtain ⟨c, hc⟩ := I.ok.has x (.inl hk)
  obtain ⟨w', z⟩ := I.cell x c hc
  refine wpAny_storeName_cell I.ok.kind hk hc z (fun h' hc' hs => ?_)
  obtain ⟨oc, hoc, hocd⟩ := id z
  refine h { s with heap := h' } ⟨I.ok, I.os, I.bare, ⟨fun b o e n hb hx => ?_, fun b o e n hb hx => ?_, I.base.free, fun b o e hx => ?_, I.base.tups, I.base.frzs, I.base.tbls⟩, ⟨m, hn.sameBut hs (Ne.symm (cne x c hc)), fun j y v' e1 e2 e3 => ?_⟩, fun y c' e => ?_, I.free, I.freeC, fun p hp => ?_, tracked ⟨oc, hoc, I.freeC x c hc⟩ hs, by simpa using I.len⟩ ⟨c, hs, .inr hc⟩
  ·exact (hs.2 b (Nat.ne_of_lt (Nat.lt_of_lt_of_le (Heap.lt_size e) (I.ok.cab x c hfn hc)))).trans (I.base.keep b o e n hb hx)
  ·obtain ⟨sl, e1⟩ := I.base.slot b o e n hb hx
   exact ⟨sl, (hs.2 b (Nat.ne_of_lt (Nat.lt_of_lt_of_le (Heap.lt_size e) (I.ok.cab x c hfn hc)))).trans e1⟩
  ·obtain ⟨o', e1⟩ := I.base.there b o e hx
   exact ⟨o', (hs.2 b (Nat.ne_of_lt (Nat.lt_of_lt_of_le (Heap.lt_size e) (I.ok.cab x c hfn hc)))).trans e1⟩
  ·by_cases hj : j = i
   ·subst hj
    rw [hi] at e1; cases e1
    rw [List.getElem?_set_self hiσ] at e2
    cases e2
    exact ⟨u, r, .inr ⟨.inl hk, c, hc, hc'⟩⟩
   ·rw [List.getElem?_set_ne (Ne.symm hj)] at e2
    obtain ⟨u', r', q⟩ := hl j y v' e1 e2 e3
    refine ⟨u', r', ?_⟩
    rcases q with q | ⟨k, c', e, z'⟩
    ·exact .inl q
    ·refine .inr ⟨k, c', e, z'.sameBut hs ?_⟩
     rintro rfl
     exact hj (nodup_ix hN e1 (I.ok.inj _ _ _ e hc ▸ hi))
  ·by_cases hcc : c' = c
   ·subst hcc; exact ⟨_, hc'⟩
   ·obtain ⟨w2, z2⟩ := I.cell y c' e
    exact ⟨w2, z2.sameBut hs hcc⟩
  ·obtain ⟨e, n, ne, nf, d⟩ := I.pin p hp
   refine ⟨(hs.2 p.1 ?_).trans e, n, ne, nf, d⟩
   intro q
   rw [q, hoc] at e
   have q' : oc = p.2 := Option.some.inj e
   exact d w' (by rw [← q']; exact hocd)
theorem store_ok {M : Model} {A : Around} {E : Value → Shared → Prop} {i : Nat} {x : Str} {v : V} {u : Value} {Q : Unit → Shared → Prop} (I : Inv X pins σ H s) (hN : X.N.Nodup) (hi : X.N[i]? = some x) (hx : Loc X.env.scope x) (r : RelV v u)
  (h : ∀ s', Inv X pins (σ.set i (some v)) H s' → Q () s') (hf : X.fn x = true ∨ X.env.scope.names.lookup x = some .local := by first | exact .inl rfl | exact .inr rfl | assumption) : wpAny M A (storeName X.env x u) Q E s :=
 store_ok2 I hN hi hx r (fun s' I' _ => h s' I') hf
theorem Inv.call' {s' : Shared} {ch : List Addr} (I : Inv X pins σ H s) (ho : s'.os = s.os) (u : Un (frs X.stack) ch H H' s.heap s'.heap) (hok : HOk X.prog X.w H' s'.heap) (hg : AllBare s'.gens)
  (hch : ∀ b ∈ ch, (b ∈ X.ex ∨ X.s₀.heap.objs.size ≤ b) ∧ b ≠ X.env.locals ∧ (∀ x c, X.env.cells.lookup x = some c → c ≠ b) ∧ ∀ p ∈ X.pn ++ pins, p.1 ≠ b) : Inv X pins σ H' s' := by
 obtain ⟨h', g', d', t', o'⟩ := s'
 have e : o' = s.os := ho
 subst e
 exact I.call (g' := g') (t' := t') (d' := d') u hok hg hch
end
noncomputable abbrev XK := Value → Option Addr → Hp → Prop
noncomputable abbrev St := List (Option V)
noncomputable abbrev VK := V → Hp → Prop
noncomputable abbrev TE := St → Hp → VK → Prop
noncomputable abbrev TT := St → Hp → (Bool → Hp → Prop) → Prop
noncomputable abbrev TA := St → Hp → (List V → Hp → Prop) → Prop
structure Ends where
 nx : St → Hp → Prop
 rt : VK
 bk : St → Hp → Prop := fun _ _ => False
 ct : St → Hp → Prop := fun _ _ => False
noncomputable abbrev TS := Ends → St → Hp → Prop
noncomputable def EP (X : Cx) (pins : List (Addr × Obj)) (σ : St) (Q : VK) (u : Value) (s' : Shared) : Prop := ∃ v H', Inv X pins σ H' s' ∧ RelV v u ∧ Q v H'
noncomputable def TP (X : Cx) (pins : List (Addr × Obj)) (σ : St) (Q : Bool → Hp → Prop) (b : Bool) (s' : Shared) : Prop := ∃ H', Inv X pins σ H' s' ∧ Q b H'
noncomputable def AP (X : Cx) (pins : List (Addr × Obj)) (σ : St) (Q : List V → Hp → Prop) (us : List Value) (s' : Shared) : Prop := ∃ vs H', Inv X pins σ H' s' ∧ Vals vs us ∧ Q vs H'
noncomputable def SP (X : Cx) (pins : List (Addr × Obj)) (D : Ends) (f : Flow) (s' : Shared) : Prop :=
 match f with
 | .next => ∃ σ' H', Inv X pins σ' H' s' ∧ D.nx σ' H'
 | .brk => ∃ σ' H', Inv X pins σ' H' s' ∧ D.bk σ' H'
 | .cont => ∃ σ' H', Inv X pins σ' H' s' ∧ D.ct σ' H'
 | .ret u => ∃ v σ' H', Inv X pins σ' H' s' ∧ RelV v u ∧ D.rt v H'
noncomputable def PE (X : Cx) (e : Expr) (t : TE) : Prop :=
 ∀ (pins : List (Addr × Obj)) (s : Shared) (σ : St) (H : Hp) (Q : VK), Inv X pins σ H s → t σ H Q → wpAny (model X.prog X.w) X.A (eval e X.env) (EP X pins σ Q) X.xe s
noncomputable def PT (X : Cx) (e : Expr) (t : TT) : Prop :=
 ∀ (pins : List (Addr × Obj)) (s : Shared) (σ : St) (H : Hp) (Q : Bool → Hp → Prop), Inv X pins σ H s → t σ H Q → wpAny (model X.prog X.w) X.A (isTrue e X.env (eval e X.env)) (TP X pins σ Q) X.xe s
noncomputable def PW (X : Cx) (e : Expr) (t : TT) : Prop :=
 ∀ (whole : Sem Value) (pins : List (Addr × Obj)) (s : Shared) (σ : St) (H : Hp) (Q : Bool → Hp → Prop), Inv X pins σ H s → t σ H Q → wpAny (model X.prog X.w) X.A (isTrue e X.env whole) (TP X pins σ Q) X.xe s
theorem PW.pt {X : Cx} {e : Expr} {t : TT} (h : PW X e t) : PT X e t := h _
noncomputable def PA (X : Cx) (es : List Expr) (t : TA) : Prop :=
 ∀ (pos : Pos) (pins : List (Addr × Obj)) (s : Shared) (σ : St) (H : Hp) (Q : List V → Hp → Prop), Inv X pins σ H s → t σ H Q → wpAny (model X.prog X.w) X.A (spliced (backTo pos (starEach es X.env))) (AP X pins σ Q) X.xe s
noncomputable def PS (X : Cx) (st : Stmt) (t : TS) : Prop :=
 ∀ (pins : List (Addr × Obj)) (s : Shared) (σ : St) (H : Hp) (D : Ends), Inv X pins σ H s → t D σ H → wpAny (model X.prog X.w) X.A (exec st X.env) (SP X pins D) X.xe s
noncomputable def PSs (X : Cx) (st : List Stmt) (t : TS) : Prop :=
 ∀ (pins : List (Addr × Obj)) (s : Shared) (σ : St) (H : Hp) (D : Ends), Inv X pins σ H s → t D σ H → wpAny (model X.prog X.w) X.A (execs st X.env) (SP X pins D) X.xe s
theorem thn {α : Type} {t : Sem α} {Q Q' : α → Shared → Prop} {M : Model} {A : Around} {E : Value → Shared → Prop} {s : Shared} (h : wpAny M A t Q E s) (hQ : ∀ a s, Q a s → Q' a s) : wpAny M A t Q' E s := wpAny_mono h hQ fun _ _ x => x
end L2
namespace L2
open PySem PySem.Spec PyProof.Rows
section
variable {X : Cx}
theorem bin {a b : Expr} {ta tb : TE} (ha : PE X a ta) (hb : PE X b tb) {pins : List (Addr × Obj)} {s : Shared} {σ : St} {H : Hp} {R : V → V → Hp → Prop} (I : Inv X pins σ H s) (h : ta σ H fun x H1 => tb σ H1 fun y H2 => R x y H2)
  {α : Type} {Q : α → Shared → Prop} {f : Value → Value → Sem α}
  (hf : ∀ v u s2 x y H2, Inv X pins σ H2 s2 → RelV x v → RelV y u → R x y H2 → wpAny (model X.prog X.w) X.A (f v u) Q X.xe s2) :
  wpAny (model X.prog X.w) X.A (eval a X.env) (fun v s₁ => wpAny (model X.prog X.w) X.A (eval b X.env) (fun u s₂ => wpAny (model X.prog X.w) X.A (f v u) Q X.xe s₂) X.xe s₁) X.xe s := by
 refine thn (ha pins s σ H _ I h) fun v s1 ⟨x, H1, I1, r1, q1⟩ => ?_
 refine thn (hb pins s1 σ H1 _ I1 q1) fun u s2 ⟨y, H2, I2, r2, q2⟩ => ?_
 exact hf v u s2 x y H2 I2 r1 r2 q2
noncomputable def tVar (i : Nat) : TE := fun σ H Q => ∃ v, σ[i]? = some (some v) ∧ Q v H
noncomputable def tC (v : V) : TE := fun _ H Q => Q v H
theorem pe_var {i : Nat} {x : Str} {pos : Pos} (hN : X.N[i]? = some x) (hv : Vis X.env.scope x) (hd : (x == ("__debug__" : Str)) = false := by decide) (hcd : (x == ("__classdict__" : Str)) = false := by decide) : PE X (.Name x pos) (tVar i) := by
 intro pins s σ H Q I h
 obtain ⟨v, e, h⟩ := h
 obtain ⟨m, hn, hl⟩ := I.loc
 obtain ⟨u, r, l⟩ := hl i x v hN e hv
 have fin : EP X pins σ Q u s := ⟨v, H, I, r, h⟩
 rcases l with ⟨hk, hm⟩ | ⟨hk, c, hc, hcell⟩
 ·exact wpAny_Name (wpAny_loadName_local I.ok.kind hk hn hm fin) hd
 ·rcases hk with hk | hk
  ·exact wpAny_Name (wpAny_loadName_cell I.ok.kind hk hc hcell fin) hd
  ·exact wpAny_Name (wpAny_loadName_free I.ok.kind hk hc hcell fin hcd) hd
theorem pe_int {i j pos} : PE X (.Constant (.int i) j pos) (tC (.int i)) := fun _ _ _ H _ I h => wpAny_Constant_int ⟨.int i, H, I.tok _, ⟨_, rfl⟩, h⟩
theorem pe_bl {b j pos} : PE X (.Constant (.bool b) j pos) (tC (.bl b)) := fun _ _ _ H _ I h => Constant_bool ⟨.bl b, H, I, rfl, h⟩
theorem pe_non {j pos} : PE X (.Constant .none j pos) (tC .non) := fun _ _ _ H _ I h => Constant_none ⟨.non, H, I, rfl, h⟩
theorem pe_str {x j pos} : PE X (.Constant (.str x) j pos) (tC (.str x)) := fun _ _ _ H _ I h => Calls.Constant_str ⟨.str x, H, I.tok _, ⟨_, rfl⟩, h⟩
noncomputable def Gl (X : Cx) (x : Str) : Prop := X.env.kindOf x = some .globalImplicit
theorem ld_glob {E : Value → Shared → Prop} {pins : List (Addr × Obj)} {s : Shared} {σ : St} {H : Hp} {x : Str} {u : Value} {pos : Pos} {Q : Value → Shared → Prop} (I : Inv X pins σ H s) (hg : Gl X x) (hm : X.mg x = some u) (h : Q u s)
  (hd : (x == ("__debug__" : Str)) = false := by decide) : wpAny (model X.prog X.w) X.A (eval (.Name x pos) X.env) Q E s :=
 Calls.Name_function_global I.ok.kind hg (Calls.loadGlobal_global (by rw [I.ok.glob]; exact I.mod.glob.keeps I.bk) hm h) hd
theorem ld_blt {E : Value → Shared → Prop} {pins : List (Addr × Obj)} {s : Shared} {σ : St} {H : Hp} {x : Str} {u : Value} {pos : Pos} {Q : Value → Shared → Prop} (I : Inv X pins σ H s) (hg : Gl X x) (hm : X.mg x = none) (hv : bootBuiltins x = some u) (h : Q u s)
  (hn : x ≠ "__name__" := by decide) (hd : (x == ("__debug__" : Str)) = false := by decide) : wpAny (model X.prog X.w) X.A (eval (.Name x pos) X.env) Q E s := by
 obtain ⟨mb, h1, h2⟩ := I.mod.blt
 exact Calls.Name_function_global I.ok.kind hg (Calls.loadGlobal_builtin (by rw [I.ok.glob]; exact I.mod.glob.keeps I.bk) hm (by rw [I.ok.blt]; exact h1.keeps I.bk) ((h2 x hn).trans hv) h) hd
theorem pe_glob {x : Str} {v : V} {u : Value} {pos : Pos} (hg : Gl X x) (hm : X.mg x = some u) (r : RelV v u) (hd : (x == ("__debug__" : Str)) = false := by decide) : PE X (.Name x pos) (tC v) :=
 fun _ _ _ H _ I h => ld_glob I hg hm ⟨v, H, I, r, h⟩ hd
theorem pe_bltn {x : Str} {v : V} {u : Value} {pos : Pos} (hg : Gl X x) (hm : X.mg x = none) (hv : bootBuiltins x = some u) (r : RelV v u) (hn : x ≠ "__name__" := by decide) (hd : (x == ("__debug__" : Str)) = false := by decide) : PE X (.Name x pos) (tC v) :=
 fun _ _ _ H _ I h => ld_blt I hg hm hv ⟨v, H, I, r, h⟩ hn hd
noncomputable def t2I (ta tb : TE) (k : Int → Int → Hp → Prop) : St → Hp → Prop := fun σ H => ta σ H fun x H1 => tb σ H1 fun y H2 => ∃ i j, x = .int i ∧ y = .int j ∧ k i j H2
variable {a b : Expr} {ta tb : TE} {pos : Pos}
noncomputable def PC (X : Cx) (op : CmpOp) (a b : Expr) (t : TE) : Prop :=
 ∀ (pins : List (Addr × Obj)) (s : Shared) (σ : St) (H : Hp) (Q : VK), Inv X pins σ H s → t σ H Q →
  wpAny (model X.prog X.w) X.A (eval a X.env) (fun v s₁ => wpAny (model X.prog X.w) X.A (eval b X.env) (fun u s₂ => wpAny (model X.prog X.w) X.A (compareOp op v u) (EP X pins σ Q) X.xe s₂) X.xe s₁) X.xe s
noncomputable def tCmp (p : Int → Int → Bool) (ta tb : TE) : TE := fun σ H Q => t2I ta tb (fun i j H2 => Q (.bl (p i j)) H2) σ H
noncomputable abbrev tLt : TE → TE → TE := tCmp fun i j => decide (i < j)
noncomputable abbrev tLe : TE → TE → TE := tCmp fun i j => decide (i ≤ j)
noncomputable abbrev tGt : TE → TE → TE := tCmp fun i j => decide (j < i)
noncomputable abbrev tGe : TE → TE → TE := tCmp fun i j => decide (j ≤ i)
noncomputable abbrev tEqI : TE → TE → TE := tCmp fun i j => decide (i = j)
noncomputable abbrev tNeI : TE → TE → TE := tCmp fun i j => !decide (i = j)
noncomputable def tB (t : TE) : TT := fun σ H Q => t σ H fun x H1 => ∃ c, x = .bl c ∧ Q c H1
theorem pt_cmp {op : CmpOp} {t : TE} (h : PC X op a b t) (h1 : behindInMarks op b = false := by first | exact nobehind _ (by decide) (by decide) | rfl) : PT X (.Compare a [op] [b] pos) (tB t) := by
 intro pins s σ H Q I hw
 refine wpAny_isTrue_Compare1 (thn (h pins s σ H _ I hw) fun v s1 h1 => thn h1 fun u s2 h2 => thn h2 fun c s3 ⟨x, H1, I1, r1, q1⟩ => ?_) h1
 obtain ⟨d, rfl, q⟩ := q1
 cases r1
 exact wpAny_truthy_bool ⟨H1, I1, q⟩
theorem pt_val {e : Expr} {t : TE} (h : PE X e t) (he : ∀ whole, isTrue e X.env whole = (do let v ← whole; standAt e.pos; holding [v] (truthy v)) := by intro _; rfl) : PT X e (tB t) := by
 intro pins s σ H Q I hw
 refine isTrue_plain (thn (h pins s σ H _ I hw) fun v s1 ⟨x, H1, I1, r1, q1⟩ => ?_) (he _)
 obtain ⟨d, rfl, q⟩ := q1
 cases r1
 exact wpAny_truthy_bool ⟨H1, I1, q⟩
variable {tA tB' : TT} {rest : List Expr}
noncomputable def tAnd (t u : TT) : TT := fun σ H Q => t σ H fun c H1 => if c = true then u σ H1 Q else Q false H1
noncomputable def tOr (t u : TT) : TT := fun σ H Q => t σ H fun c H1 => if c = true then Q true H1 else u σ H1 Q
noncomputable def tNot (t : TT) : TT := fun σ H Q => t σ H fun c H1 => Q (!c) H1
theorem pw_and1 (ha : PT X a tA) : PW X (.BoolOp .And [a] pos) tA := by
 intro wh pins s σ H Q I h
 refine isTrue_and (thn (ha pins s σ H Q I h) fun c s1 e => ?_)
 cases c with
 | true => exact isTrue_and_nil e
 | false => exact e
theorem pw_or1 (ha : PT X a tA) : PW X (.BoolOp .Or [a] pos) tA := by
 intro wh pins s σ H Q I h
 refine isTrue_or (thn (ha pins s σ H Q I h) fun c s1 e => ?_)
 cases c with
 | false => exact isTrue_or_nil e
 | true => exact e
theorem pw_and (ha : PT X a tA) (hb : PW X (.BoolOp .And (b :: rest) pos) tB') : PW X (.BoolOp .And (a :: b :: rest) pos) (tAnd tA tB') := by
 intro wh pins s σ H Q I h
 refine isTrue_and (thn (ha pins s σ H _ I h) fun c s1 ⟨H1, I1, q1⟩ => ?_)
 cases c with
 | true => exact hb wh pins s1 σ H1 Q I1 q1
 | false => exact ⟨H1, I1, q1⟩
theorem pw_or (ha : PT X a tA) (hb : PW X (.BoolOp .Or (b :: rest) pos) tB') : PW X (.BoolOp .Or (a :: b :: rest) pos) (tOr tA tB') := by
 intro wh pins s σ H Q I h
 refine isTrue_or (thn (ha pins s σ H _ I h) fun c s1 ⟨H1, I1, q1⟩ => ?_)
 cases c with
 | true => exact ⟨H1, I1, q1⟩
 | false => exact hb wh pins s1 σ H1 Q I1 q1
theorem pt_not (ha : PT X a tA) : PT X (.UnaryOp .Not a pos) (tNot tA) := by
 intro pins s σ H Q I h
 exact isTrue_not (ha pins s σ H (fun c H1 => Q (!c) H1) I h)
noncomputable def tAndV (ta tb : TE) : TE := fun σ H Q => ta σ H fun x H1 => ∃ c, x = .bl c ∧ if c = true then tb σ H1 Q else Q (.bl false) H1
theorem pe_one {op} {t : TE} (h : PE X a t) : PE X (.BoolOp op [a] pos) t := fun pins s σ H Q I hw => BoolOp_one (h pins s σ H Q I hw)
theorem pe_and (ha : PE X a ta) (hb : PE X (.BoolOp .And (b :: rest) pos) tb) : PE X (.BoolOp .And (a :: b :: rest) pos) (tAndV ta tb) := by
 intro pins s σ H Q I h
 refine BoolOp_and (thn (ha pins s σ H _ I h) fun v s1 ⟨x, H1, I1, r1, q1⟩ => ?_)
 obtain ⟨c, rfl, q1⟩ := q1
 cases r1
 refine wpAny_truthy_bool ?_
 cases c with
 | true => exact hb pins s1 σ H1 Q I1 q1
 | false => exact ⟨.bl false, H1, I1, rfl, q1⟩
noncomputable def tIf (t : TT) (ta tb : TE) : TE := fun σ H Q => t σ H fun c H1 => if c = true then ta σ H1 Q else tb σ H1 Q
theorem pe_ifExp {c : Expr} (hc : PT X c tA) (ha : PE X a ta) (hb : PE X b tb) : PE X (.IfExp c a b pos) (tIf tA ta tb) := by
 intro pins s σ H Q I h
 refine wpAny_IfExp (thn (hc pins s σ H _ I h) fun d s1 ⟨H1, I1, q1⟩ => ?_)
 cases d with
 | true => exact ha pins s1 σ H1 Q I1 q1
 | false => exact hb pins s1 σ H1 Q I1 q1
end
end L2
namespace L2
open PySem PySem.Spec PyProof.Rows
noncomputable def SqL (K : PySem.W.Frag) (H : Hp) (a : Addr) (xs : List V) : Prop :=
 Rd H a (.lst xs) ∨
  ∃ (o : Obj) (its : Array Value) (n : Nat), K.lookup a = some o ∧ o.cls = .type "list" ∧ o.dict = none ∧ o.data = .seq its n ∧ its.size ≤ sizeLine ∧ Vals xs its.toList
noncomputable def SqT (K : PySem.W.Frag) (H : Hp) (a : Addr) (xs : List V) : Prop :=
 Rd H a (.tup xs) ∨
  ∃ (o : Obj) (its : Array Value) (n : Nat), K.lookup a = some o ∧ o.cls = .type "tuple" ∧ o.data = .seq its n ∧ its.size ≤ sizeLine ∧ Vals xs its.toList
noncomputable def absV : Value → Option V
 | .none => some .non
 | .bool b => some (.bl b)
 | .int i _ => some (.int i)
 | .str x _ => some (.str x)
 | .bytes b _ => some (.byt b)
 | .float b _ => some (.flt b)
 | .ref a => some (.ref a)
 | .type n => some (.ty n)
 | _ => none
theorem RelV.abs {x : V} {u : Value} (r : RelV x u) : absV u = some x := by
 cases x with
 | non => cases r; rfl
 | bl _ => cases r; rfl
 | int _ => obtain ⟨t, rfl⟩ := r; rfl
 | str _ => obtain ⟨t, rfl⟩ := r; rfl
 | byt _ => obtain ⟨t, rfl⟩ := r; rfl
 | flt _ => obtain ⟨t, rfl⟩ := r; rfl
 | ref _ => cases r; rfl
 | ty _ => cases r; rfl
theorem RelV.inj {x y : V} {u : Value} (r : RelV x u) (q : RelV y u) : x = y := Option.some.inj (r.abs.symm.trans q.abs)
theorem Vals.inj : ∀ {xs ys : List V} {us : List Value}, Vals xs us → Vals ys us → xs = ys
 | _, _, _, .nil, .nil => rfl
 | _, _, _, .cons r t, .cons r' t' => by rw [r.inj r', Vals.inj t t']
section
variable {X : Cx} {pins : List (Addr × Obj)} {σ : St} {H : Hp} {s : Shared} {a : Addr} {xs ys : List V}
theorem SqL.of {K : PySem.W.Frag} (h : H a = some (.lst xs)) : SqL K H a xs := .inl (.inl h)
theorem SqT.of {K : PySem.W.Frag} (h : H a = some (.tup xs)) : SqT K H a xs := .inl (.inl h)
theorem Inv.list (I : Inv X pins σ H s) (h : SqL X.K H a xs) : ∃ its : List Value, Vals xs its ∧ PlainL s.heap a its.toArray ∧ xs.length ≤ sizeLine := by
 rcases h with h | ⟨o, its, n, hk, hc, hd, hs, hz, r⟩
 ·obtain ⟨z, its, n, r, e⟩ := h.ok I.hok
  exact ⟨its, r, ⟨_, n, e, rfl, rfl, rfl⟩, z⟩
 ·refine ⟨its.toList, r, ⟨o, n, I.kIn a o hk, hc, hd, by simpa using hs⟩, ?_⟩
  have e := r.length
  simp only [Array.length_toList] at e
  omega
theorem Inv.tuple (I : Inv X pins σ H s) (h : SqT X.K H a xs) : ∃ its : List Value, Vals xs its ∧ IsTup s.heap a its.toArray ∧ xs.length ≤ sizeLine := by
 rcases h with h | ⟨o, its, n, hk, hc, hs, hz, r⟩
 ·obtain ⟨z, its, r, p⟩ := h.ok I.hok
  exact ⟨its, r, p, z⟩
 ·refine ⟨its.toList, r, ⟨o, I.kIn a o hk, hc, n, by simpa using hs⟩, ?_⟩
  have e := r.length
  simp only [Array.length_toList] at e
  omega
theorem Inv.list_inj (I : Inv X pins σ H s) (h : SqL X.K H a xs) (h' : SqL X.K H a ys) : xs = ys := by
 obtain ⟨its, r, ⟨o, n, e, _, _, d⟩, _⟩ := I.list h
 obtain ⟨its', r', ⟨o', n', e', _, _, d'⟩, _⟩ := I.list h'
 rw [e] at e'; cases e'
 rw [d] at d'
 injection d' with d1 _
 have : its = its' := by simpa using congrArg Array.toList d1
 subst this
 exact r.inj r'
theorem Inv.tuple_inj (I : Inv X pins σ H s) (h : SqT X.K H a xs) (h' : SqT X.K H a ys) : xs = ys := by
 obtain ⟨its, r, ⟨o, e, _, n, d⟩, _⟩ := I.tuple h
 obtain ⟨its', r', ⟨o', e', _, n', d'⟩, _⟩ := I.tuple h'
 rw [e] at e'; cases e'
 rw [d] at d'
 injection d' with d1 _
 have : its = its' := by simpa using congrArg Array.toList d1
 subst this
 exact r.inj r'
end
noncomputable abbrev Cx.wish (X : Cx) (E : Value → Shared → Prop) : Cx := { X with xe := E }
noncomputable abbrev Cx.nox (X : Cx) : Cx := X.wish fun _ _ => False
theorem Cx.Ok.wish {X : Cx} (ok : X.Ok) (E : Value → Shared → Prop) : (X.wish E).Ok :=
 ⟨ok.mod, ok.kind, ok.glob, ok.blt, ok.above, ok.inj, ok.has, ok.cab, ok.hd, ok.frames, ok.stk, ok.exf, ok.bs, ok.bsz, ok.noex, ok.exfs, ok.funs, ok.frf⟩
theorem Cx.Ok.unwish {X : Cx} {E : Value → Shared → Prop} (ok : (X.wish E).Ok) : X.Ok :=
 ⟨ok.mod, ok.kind, ok.glob, ok.blt, ok.above, ok.inj, ok.has, ok.cab, ok.hd, ok.frames, ok.stk, ok.exf, ok.bs, ok.bsz, ok.noex, ok.exfs, ok.funs, ok.frf⟩
section
variable {X : Cx} {pins : List (Addr × Obj)} {σ : St} {H : Hp} {s : Shared} {E : Value → Shared → Prop}
theorem Inv.wish (I : Inv X pins σ H s) (E : Value → Shared → Prop) : Inv (X.wish E) pins σ H s := ⟨I.ok.wish E, I.os, I.bare, I.base, I.loc, I.cell, I.free, I.freeC, I.pin, I.hok, I.len⟩
theorem Inv.unwish (I : Inv (X.wish E) pins σ H s) : Inv X pins σ H s := ⟨I.ok.unwish, I.os, I.bare, I.base, I.loc, I.cell, I.free, I.freeC, I.pin, I.hok, I.len⟩
theorem SP.unwish {D : Ends} {f : Flow} {s' : Shared} (h : SP (X.wish E) pins D f s') : SP X pins D f s' := by
 cases f with
 | next => obtain ⟨σ', H', I, q⟩ := h; exact ⟨σ', H', I.unwish, q⟩
 | brk => obtain ⟨σ', H', I, q⟩ := h; exact ⟨σ', H', I.unwish, q⟩
 | cont => obtain ⟨σ', H', I, q⟩ := h; exact ⟨σ', H', I.unwish, q⟩
 | ret u => obtain ⟨v, σ', H', I, r, q⟩ := h; exact ⟨v, σ', H', I.unwish, r, q⟩
theorem PE.nox {e : Expr} {t : TE} (h : PE X.nox e t) : PE X e t := fun pins s σ H Q I hw =>
 wpAny_mono (h pins s σ H Q (I.wish _) hw) (fun _ _ ⟨v, H', I', r, q⟩ => ⟨v, H', I'.unwish, r, q⟩) fun _ _ z => False.elim z
theorem PT.nox {e : Expr} {t : TT} (h : PT X.nox e t) : PT X e t := fun pins s σ H Q I hw =>
 wpAny_mono (h pins s σ H Q (I.wish _) hw) (fun _ _ ⟨H', I', q⟩ => ⟨H', I'.unwish, q⟩) fun _ _ z => False.elim z
theorem PSs.nox {st : List Stmt} {t : TS} (h : PSs X.nox st t) : PSs X st t := fun pins s σ H D I hw =>
 wpAny_mono (h pins s σ H D (I.wish _) hw) (fun _ _ q => q.unwish) fun _ _ z => False.elim z
end
section
variable {X : Cx} {st : Stmt} {rest : List Stmt} {t u : TS} {e : Expr} {te : TE} {pos : Pos}
noncomputable def tNext : TS := fun D σ H => D.nx σ H
noncomputable def tSeq (t u : TS) : TS := fun D σ H => t { D with nx := u D } σ H
theorem pss_nil : PSs X [] tNext := fun _ _ σ H _ I h => wpAny_execs_nil ⟨σ, H, I, h⟩
theorem pss_cons (h1 : PS X st t) (h2 : PSs X rest u) : PSs X (st :: rest) (tSeq t u) := by
 intro pins s σ H D I h
 refine wpAny_execs_cons (thn (h1 pins s σ H { D with nx := u D } I h) fun f s1 q => ?_)
 cases f with
 | next =>
  obtain ⟨σ', H', I', q⟩ := q
  exact h2 pins s1 σ' H' D I' q
 | ret v => exact q
 | brk => exact q
 | cont => exact q
theorem pss_one (h1 : PS X st t) : PSs X [st] t := by
 intro pins s σ H D I h
 refine wpAny_execs_cons (thn (h1 pins s σ H D I h) fun f s1 q => ?_)
 cases f with
 | next => exact wpAny_execs_nil q
 | ret v => exact q
 | brk => exact q
 | cont => exact q
theorem Inv.quiet {pins : List (Addr × Obj)} {σ : St} {H : Hp} {s : Shared} (I : Inv X pins σ H s) : interactive X.env = false := by simp [interactive, I.ok.kind]
noncomputable def tDrop (te : TE) : TS := fun D σ H => te σ H fun _ H1 => D.nx σ H1
theorem ps_expr (he : PE X e te) (hs : swapsWith e none pos.line X.env = pure false := by rfl) : PS X (.Expr e pos) (tDrop te) := by
 intro pins s σ H D I h
 exact wpAny_Expr_any (thn (he pins s σ H _ I h) fun v s1 ⟨x, H1, I1, r1, q1⟩ => ⟨σ, H1, I1, q1⟩) I.quiet hs
noncomputable def tRet (te : TE) : TS := fun D σ H => te σ H D.rt
theorem ps_ret (he : PE X e te) : PS X (.Return (some e) pos) (tRet te) := by
 intro pins s σ H D I h
 exact wpAny_Return_some (thn (he pins s σ H _ I h) fun v s1 ⟨x, H1, I1, r1, q1⟩ => ⟨x, σ, H1, I1, r1, q1⟩)
noncomputable def tIfS (c : TT) (t u : TS) : TS := fun D σ H => c σ H fun b H1 => if b = true then t D σ H1 else u D σ H1
theorem ps_if {c : Expr} {a b : List Stmt} {tc : TT} (hc : PT X c tc) (ha : PSs X a t) (hb : PSs X b u) : PS X (.If c a b pos) (tIfS tc t u) := by
 intro pins s σ H D I h
 refine wpAny_If (thn (hc pins s σ H _ I h) fun d s1 ⟨H1, I1, q1⟩ => ?_)
 cases d with
 | true => exact ha pins s1 σ H1 D I1 q1
 | false => exact hb pins s1 σ H1 D I1 q1
noncomputable def tNever : TS := fun _ _ _ => False
theorem ps_never : PS X st tNever := fun _ _ _ _ _ _ h => h.elim
end
noncomputable abbrev TG := V → St → Hp → (St → Hp → Prop) → Prop
noncomputable abbrev TGs := List V → St → Hp → (St → Hp → Prop) → Prop
noncomputable def PG (X : Cx) (target : Expr) (t : TG) : Prop :=
 ∀ (pins : List (Addr × Obj)) (s : Shared) (σ : St) (H : Hp) (v : V) (u : Value) (Q : St → Hp → Prop), Inv X pins σ H s → RelV v u → t v σ H Q →
  wpAny (model X.prog X.w) X.A (assign target X.env u) (fun _ s' => ∃ σ' H', Inv X pins σ' H' s' ∧ Q σ' H') X.xe s
noncomputable def PGs (X : Cx) (ts : List Expr) (t : TGs) : Prop :=
 ∀ (pins : List (Addr × Obj)) (s : Shared) (σ : St) (H : Hp) (vs : List V) (us : List Value) (Q : St → Hp → Prop), Inv X pins σ H s → Vals vs us → t vs σ H Q →
  wpAny (model X.prog X.w) X.A (assignInOrder ((assignEach ts X.env).map (·.2)) us) (fun _ s' => ∃ σ' H', Inv X pins σ' H' s' ∧ Q σ' H') X.xe s
noncomputable abbrev TSet := V → V → V → Hp → (Hp → Prop) → Prop
noncomputable def PSet (X : Cx) (t : TSet) : Prop :=
 ∀ (pins : List (Addr × Obj)) (s : Shared) (σ : St) (H : Hp) (o i v : V) (ov iv u : Value) (Q : Hp → Prop), Inv X pins σ H s → RelV o ov → RelV i iv → RelV v u → t o i v H Q →
  wpAny (model X.prog X.w) X.A (setItem ov iv u) (fun _ s' => ∃ H', Inv X pins σ H' s' ∧ Q H') X.xe s
noncomputable abbrev TIp := V → V → Hp → VK → Prop
noncomputable def PIp (X : Cx) (op : Operator) (t : TIp) : Prop :=
 ∀ (pins : List (Addr × Obj)) (s : Shared) (σ : St) (H : Hp) (x y : V) (v u : Value) (Q : VK), Inv X pins σ H s → RelV x v → RelV y u → t x y H Q →
  wpAny (model X.prog X.w) X.A (inplaceOp op v u) (EP X pins σ Q) X.xe s
section
variable {X : Cx} {pos : Pos}
noncomputable def gName (i : Nat) : TG := fun v σ H Q => Q (σ.set i (some v)) H
theorem pg_name {i : Nat} {x : Str} (hN : X.N.Nodup) (hi : X.N[i]? = some x) (hx : Loc X.env.scope x) (hf : X.fn x = true ∨ X.env.scope.names.lookup x = some .local := by first | exact .inl rfl | exact .inr rfl | assumption) : PG X (.Name x pos) (gName i) := by
 intro pins s σ H v u Q I r h
 exact wpAny_assign_Name (store_ok I hN hi hx r (fun s' I' => ⟨_, H, I', h⟩) hf)
noncomputable def gNil : TGs := fun vs σ H Q => vs = [] ∧ Q σ H
noncomputable def gCons (t : TG) (u : TGs) : TGs := fun vs σ H Q => ∃ v r, vs = v :: r ∧ t v σ H fun σ' H' => u r σ' H' Q
theorem pgs_nil : PGs X [] gNil := by
 intro pins s σ H vs us Q I r h
 obtain ⟨e, h⟩ := h
 subst e
 cases r
 exact assignInOrder_nil ⟨σ, H, I, h⟩
theorem pgs_cons {e : Expr} {es : List Expr} {t : TG} {u : TGs} (h1 : PG X e t) (h2 : PGs X es u)
  (hs : (assignEach (e :: es) X.env).map (·.2) = assign e X.env :: (assignEach es X.env).map (·.2) := by rfl) : PGs X (e :: es) (gCons t u) := by
 intro pins s σ H vs us Q I r h
 obtain ⟨v, vr, e1, h⟩ := h
 subst e1
 cases r with
 | cons r rr =>
  rw [hs]
  refine assignInOrder_cons (thn (h1 pins s σ H _ _ _ I r h) fun _ s1 ⟨σ1, H1, I1, q1⟩ => ?_)
  exact h2 pins s1 σ1 H1 _ _ Q I1 rr q1
noncomputable def gTup (K : PySem.W.Frag) (n : Nat) (t : TGs) : TG := fun v σ H Q => ∃ a xs, v = .ref a ∧ SqT K H a xs ∧ xs.length = n ∧ t xs σ H Q
theorem pg_tup {es : List Expr} {k : Nat} {t : TGs} {n : Nat} (hc : X.calm = true) (h : PGs X es t)
  (hn : (assignEach es X.env).length = n := by rfl) (hst : (assignEach es X.env).findIdx? (·.1) = none := by rfl) : PG X (.Tuple es k pos) (gTup X.K n t) := by
 intro pins s σ H v u Q I r hw
 obtain ⟨a, xs, e1, hq, hl, hw⟩ := hw
 subst e1
 cases r
 obtain ⟨its, rv, ht, hz⟩ := I.tuple hq
 refine assign_Tuple_tuple (I.ok.hd hc) ht (by simp [hn, ← hl, rv.length]) hst fun h' hx => ?_
 have I1 : Inv X pins σ H { s with heap := h' } := I.kept (t' := s.toks) fun b o e => hx b o (Nat.ne_of_lt (Heap.lt_size e)) e
 exact h pins _ σ H xs _ Q I1 (by simpa using rv) hw
noncomputable def gSub (to ti : TE) (t : TSet) : TG := fun v σ H Q => to σ H fun o H1 => ti σ H1 fun i H2 => t o i v H2 fun H3 => Q σ H3
theorem pg_sub {o i : Expr} {to ti : TE} {t : TSet} (ho : PE X o to) (hi : PE X i ti) (hs : PSet X t)
  (ha : ∀ v, assign (.Subscript o i pos) X.env v = (do
   let ov ← holding [v] (eval o X.env)
   let iv ← holding [v, ov] (eval i X.env)
   standAt pos
   holding [v, ov, iv] (setItem ov iv v)
   release [v, ov, iv] []) := by intro _; rfl) : PG X (.Subscript o i pos) (gSub to ti t) := by
 intro pins s σ H v u Q I r h
 rw [ha]
 refine wpAny_bind (wpAny_holding (thn (ho pins s σ H _ I h) fun ov s1 ⟨x, H1, I1, r1, q1⟩ => ?_))
 refine wpAny_bind (wpAny_holding (thn (hi pins s1 σ H1 _ I1 q1) fun iv s2 ⟨y, H2, I2, r2, q2⟩ => ?_))
 refine wpAny_bind (wpAny_standAt (wpAny_bind (wpAny_holding (thn (hs pins s2 σ H2 x y v ov iv u _ I2 r1 r2 r q2) fun _ s3 ⟨H3, I3, q3⟩ => ?_))))
 exact wpAny_release ⟨σ, H3, I3, q3⟩
noncomputable def tAsg (te : TE) (g : TG) : TS := fun D σ H => te σ H fun x H1 => g x σ H1 D.nx
theorem ps_asg {tg e : Expr} {te : TE} {g : TG} (he : PE X e te) (hg : PG X tg g) (hs : swapsWithSole [tg] e pos.line X.env = pure false := by rfl) (hw : swappedStores [tg] e X.env = pure none := by rfl)
  (h1 : (assignEach [tg] X.env).map (·.2) = [assign tg X.env] := by rfl) : PS X (.Assign [tg] e pos) (tAsg te g) := by
 intro pins s σ H D I h
 refine wpAny_Assign_stores (thn (he pins s σ H _ I h) fun v s1 ⟨x, H1, I1, r1, q1⟩ => ?_) hs hw
 rw [h1]
 exact thn (hg pins s1 σ H1 x v _ I1 r1 q1) fun _ s2 q => q
theorem ps_set {i : Nat} {x : Str} {e : Expr} {te : TE} {pos' : Pos} (hN : X.N.Nodup) (hi : X.N[i]? = some x) (hx : Loc X.env.scope x) (he : PE X e te) (hs : swapsWith e (some (.Name x pos')) pos.line X.env = pure false := by rfl) (hf : X.fn x = true ∨ X.env.scope.names.lookup x = some .local := by first | exact .inl rfl | exact .inr rfl | assumption) :
  PS X (.Assign [.Name x pos'] e pos) (tAsg te (gName i)) := by
 intro pins s σ H D I h
 refine wpAny_Assign_Name (thn (he pins s σ H _ I h) fun v s1 ⟨y, H1, I1, r1, q1⟩ => ?_) hs
 exact store_ok I1 hN hi hx r1 (fun s2 I2 => ⟨_, H1, I2, q1⟩) hf
noncomputable def tAug (i : Nat) (te : TE) (ti : TIp) : TS := fun D σ H => ∃ x, σ[i]? = some (some x) ∧ te σ H fun y H1 => ti x y H1 fun z H2 => D.nx (σ.set i (some z)) H2
theorem ps_aug {i : Nat} {x : Str} {e : Expr} {te : TE} {op : Operator} {ti : TIp} {pos' : Pos} (hN : X.N.Nodup) (hi : X.N[i]? = some x) (hx : Loc X.env.scope x) (he : PE X e te) (ho : PIp X op ti) (hf : X.fn x = true ∨ X.env.scope.names.lookup x = some .local := by first | exact .inl rfl | exact .inr rfl | assumption) :
  PS X (.AugAssign (.Name x pos') op e pos) (tAug i te ti) := by
 intro pins s σ H D I h
 obtain ⟨v, e1, h⟩ := h
 obtain ⟨m, hn, hl⟩ := I.loc
 have vis : Vis X.env.scope x := by rcases hx with k | k; exact .inl k; exact .inr (.inl k)
 obtain ⟨u, r, l⟩ := hl i x v hi e1 vis
 refine wpAny_AugAssign_Name ?_
 have go : wpAny (model X.prog X.w) X.A (eval e X.env) (fun w s₂ => wpAny (model X.prog X.w) X.A (inplaceOp op u w) (fun r s₃ => wpAny (model X.prog X.w) X.A (storeName X.env x r) (fun _ => SP X pins D .next) X.xe s₃) X.xe s₂) X.xe s := by
  refine thn (he pins s σ H _ I h) fun w s1 ⟨y, H1, I1, r1, q1⟩ => ?_
  refine thn (ho pins s1 σ H1 v y u w _ I1 r r1 q1) fun z s2 ⟨zv, H2, I2, r2, q2⟩ => ?_
  exact store_ok I2 hN hi hx r2 (fun s3 I3 => ⟨_, H2, I3, q2⟩) hf
 rcases l with ⟨hk, hm⟩ | ⟨hk, c, hc, hcell⟩
 ·exact wpAny_loadName_local I.ok.kind hk hn hm go
 ·rcases hk with hk | hk
  ·exact wpAny_loadName_cell I.ok.kind hk hc hcell go
  ·rcases hx with k | k
   ·have : X.env.scope.names.lookup x = some .free := hk
    rw [k] at this; cases this
   ·have : X.env.scope.names.lookup x = some .free := hk
    rw [k] at this; cases this
noncomputable def ipI (f : Int → Int → Int) : TIp := fun x y H Q => ∃ i j, x = .int i ∧ y = .int j ∧ Q (.int (f i j)) H
theorem ip_add : PIp X .Add (ipI fun i j => i + j) := by
 intro pins s σ H x y v u Q I r1 r2 h
 obtain ⟨i, j, e1, e2, q⟩ := h
 subst e1; subst e2
 obtain ⟨t, rfl⟩ := r1
 obtain ⟨t', rfl⟩ := r2
 exact iadd_int ⟨.int _, H, I.tok _, ⟨_, rfl⟩, q⟩
end
section
variable {X : Cx} {pos : Pos}
noncomputable def tWhile (c : TT) (tb : TS) : TS := fun D σ H => ∃ W : Nat → St → Hp → Prop, (∃ m, W m σ H) ∧ ∀ m σ H, W m σ H →
 c σ H fun b H1 => if b = true then ∃ N : St → Hp → Prop, (∀ σ' H', N σ' H' → ∃ m', m' < m ∧ W m' σ' H') ∧ tb { D with nx := N, ct := N, bk := D.nx } σ H1 else D.nx σ H1
theorem ps_while {c : Expr} {body : List Stmt} {tc : TT} {tb : TS} (hp : PassesOwn (model X.prog X.w) X.A X.env X.xe) (hc : PT X c tc) (hb : PSs X body tb) : PS X (.While c body [] pos) (tWhile tc tb) := by
 intro pins s σ H D I h
 obtain ⟨W, ⟨m0, w0⟩, turn⟩ := h
 refine wpAny_While (codeAny_whileLoop (fun n s' => ∃ σ' H', Inv X pins σ' H' s' ∧ W n σ' H') ?_ m0 ⟨σ, H, I, w0⟩)
 rintro n s1 ⟨σ1, H1, I1, w1⟩
 refine wpAny_passesOwn hp (thn (hc pins s1 σ1 H1 _ I1 (turn n σ1 H1 w1)) fun b s2 ⟨H2, I2, q2⟩ => ?_)
 cases b with
 | true =>
  obtain ⟨N, hN, q2⟩ := q2
  rw [if_pos rfl]
  refine wpAny_passesOwn hp (thn (hb pins s2 σ1 H2 _ I2 q2) fun f s3 q3 => ?_)
  cases f with
  | next =>
   obtain ⟨σ3, H3, I3, n3⟩ := q3
   obtain ⟨m', hm, w3⟩ := hN σ3 H3 n3
   exact ⟨m', hm, σ3, H3, I3, w3⟩
  | cont =>
   obtain ⟨σ3, H3, I3, n3⟩ := q3
   obtain ⟨m', hm, w3⟩ := hN σ3 H3 n3
   exact ⟨m', hm, σ3, H3, I3, w3⟩
  | brk => exact q3
  | ret v => exact q3
 | false =>
  rw [if_neg Bool.false_ne_true]
  exact wpAny_execs_nil ⟨σ1, H2, I2, q2⟩
end
structure It where
 go : Nat → Hp → Prop
 yld : Nat → Hp → V → Hp → Prop
 stop : Nat → Hp → Prop
noncomputable def FpOk (X : Cx) (pins : List (Addr × Obj)) (H : Hp) (b : Addr) : Prop :=
 H b = none ∧ b ≠ X.env.locals ∧ b ∉ X.fs ∧ (b ∈ X.ex ∨ X.s₀.heap.objs.size ≤ b) ∧ (∀ x c, X.env.cells.lookup x = some c → c ≠ b) ∧ ∀ p ∈ X.pn ++ pins, p.1 ≠ b
theorem Inv.fpOk {X : Cx} {pins : List (Addr × Obj)} {σ : St} {H H' : Hp} {s : Shared} {b : Addr} (I : Inv X pins σ H s) (hb : s.heap.objs.size ≤ b) (hn : H' b = none) : FpOk X pins H' b := by
 refine ⟨hn, Nat.ne_of_gt (Nat.lt_of_lt_of_le I.lt hb), I.nofs hb, .inr (Nat.le_trans I.sz hb), fun x c e z => ?_, fun p hp z => ?_⟩
 ·obtain ⟨v, q⟩ := I.cell x c e
  exact absurd (Nat.lt_of_lt_of_le q.lt (by rw [z]; exact hb)) (Nat.lt_irrefl _)
 ·exact absurd (Nat.lt_of_lt_of_le (Heap.lt_size (I.pin p hp).1) (by rw [z]; exact hb)) (Nat.lt_irrefl _)
structure Turn (P : Program) (w : World) (K : PySem.W.Frag) (tg : Expr) (J : It) (fp : List Addr) (it : Addr) (tn : Nat → Heap → Prop) : Prop where
 mem : it ∈ fp
 obj : ∀ i h, tn i h → ∀ b ∈ fp, ∃ o, h.get? b = some o ∧ ∀ v, o.data ≠ .cell v
 keep : ∀ i h h', tn i h → (∀ b ∈ fp, ∀ o, h.get? b = some o → h'.get? b = some o) → tn i h'
 item : ∀ (X : Cx), X.prog = P → X.w = w → X.K = K → X.calm = true → ∀ (i : Nat) (pins : List (Addr × Obj)) (s : Shared) (σ : St) (H : Hp) (E : Value → Shared → Prop), Inv X pins σ H s → (∀ b ∈ fp, FpOk X pins H b) → tn i s.heap → J.go i H →
  wpAny (model P w) X.A (pyNext (.ref it)) (fun r s1 => ∃ u, r = some u ∧
   wpAny (model P w) X.A (letOwnedTupleGo tg (.ref it) u) (fun _ s2 => ∃ x H', Inv X pins σ H' s2 ∧ RelV x u ∧ J.yld i H x H' ∧ tn (i + 1) s2.heap ∧ ∀ b ∈ fp, H' b = none) E s1) E s
 done : ∀ (X : Cx), X.prog = P → X.w = w → X.K = K → X.calm = true → ∀ (i : Nat) (pins : List (Addr × Obj)) (s : Shared) (σ : St) (H : Hp) (E : Value → Shared → Prop), Inv X pins σ H s → (∀ b ∈ fp, FpOk X pins H b) → tn i s.heap → J.stop i H →
  wpAny (model P w) X.A (pyNext (.ref it)) (fun r s1 => r = none ∧ Inv X pins σ H s1) E s
 self : ∀ (A : Around) (i : Nat) (s : Shared) (Q : Value → Shared → Prop) (E : Value → Shared → Prop), tn i s.heap → Q (.ref it) s → wpAny (model P w) A (pyIter (.ref it)) Q E s
noncomputable abbrev TI := St → Hp → (It → Hp → Prop) → Prop
noncomputable def PIE (X : Cx) (pins : List (Addr × Obj)) (σ : St) (tg : Expr) (R : It → Hp → Prop) (itv : Value) (s2 : Shared) : Prop :=
 ∃ (it : Addr) (fp : List Addr) (tn : Nat → Heap → Prop) (J : It) (H' : Hp), itv = .ref it ∧ Inv X pins σ H' s2 ∧ Turn X.prog X.w X.K tg J fp it tn ∧ tn 0 s2.heap ∧ (∀ b ∈ fp, FpOk X pins H' b) ∧ R J H'
noncomputable def PI (X : Cx) (tg iter : Expr) (wi : TI) : Prop :=
 ∀ (pins : List (Addr × Obj)) (s : Shared) (σ : St) (H : Hp) (R : It → Hp → Prop), Inv X pins σ H s → wi σ H R →
  wpAny (model X.prog X.w) X.A (eval iter X.env) (fun v s1 => wpAny (model X.prog X.w) X.A (pyIter v) (PIE X pins σ tg R) X.xe s1) X.xe s
theorem go_of {M : Model} {A : Around} {E : Value → Shared → Prop} {s : Shared} {tg : Expr} {it : Addr} {u : Value} {o : Obj} {n : String} {vs : Array Value} {Q : Unit → Shared → Prop} (ho : s.heap.get? it = some o) (hc : o.cls = .type n) (hd : o.data = .fields vs)
    (hn : ["enumerate", "zip", "dict_itemiterator", "dict_reverseitemiterator", "odict_iterator", "itertools.zip_longest", "itertools.pairwise"].contains n = false) (hQ : Q () s) : wpAny M A (letOwnedTupleGo tg (.ref it) u) Q E s := by
  unfold letOwnedTupleGo
  cases tg <;> first
    | exact wpAny_pure hQ
    | (cases u <;> first
        | exact wpAny_pure hQ
        | (refine wpAny_bind (wpAny_load ho ?_)
           rw [hc, hd]
           show wpAny M A (if (["enumerate", "zip", "dict_itemiterator", "dict_reverseitemiterator", "odict_iterator", "itertools.zip_longest", "itertools.pairwise"].contains n && vs[0]? == some (rawInt _)) = true then _ else _) Q E s
           rw [if_neg (by intro h; rw [hn, Bool.false_and] at h; cases h)]
           exact wpAny_pure hQ))
noncomputable def Itl (K : PySem.W.Frag) (a : Addr) : It :=
 ⟨fun i H => ∃ xs x, SqL K H a xs ∧ xs[i]? = some x, fun i H x H' => H' = H ∧ ∀ xs, SqL K H a xs → xs[i]? = some x, fun i H => ∃ xs, SqL K H a xs ∧ xs.length ≤ i⟩
noncomputable def Itt (K : PySem.W.Frag) (a : Addr) : It :=
 ⟨fun i H => ∃ xs x, SqT K H a xs ∧ xs[i]? = some x, fun i H x H' => H' = H ∧ ∀ xs, SqT K H a xs → xs[i]? = some x, fun i H => ∃ xs, SqT K H a xs ∧ xs.length ≤ i⟩
noncomputable def Itr (lo : Int) (n : Nat) : It := ⟨fun i _ => i < n, fun i H x H' => H' = H ∧ x = .int (lo + i), fun i _ => n ≤ i⟩
theorem turn_list {P : Program} {w : World} {K : PySem.W.Frag} {tg : Expr} (a it : Addr) : Turn P w K tg (Itl K a) [it] it (fun i h => h.IsListIter it a i) where
 mem := by simp
 obj := fun i h st b hb => by
  have e : b = it := by simpa using hb
  subst e
  obtain ⟨o, e, c, d⟩ := st
  exact ⟨o, e, fun v z => by rw [d] at z; cases z⟩
 keep := fun i h h' st k => st.at fun o e => k it (by simp) o e
 item := by
  intro X hP hw hK hc i pins s σ H E I hf st hg
  subst hP hw hK
  obtain ⟨xs, x, hq, hx⟩ := hg
  obtain ⟨its, rv, p, hz⟩ := I.list hq
  obtain ⟨u, hu, ru⟩ := rv.get hx
  obtain ⟨f0, f1, f2, f3, f4, f5⟩ := hf it (by simp)
  refine wpAny_pyNext_list_item st p.isList (x := u) (by simpa using hu) fun h' st' sb => ?_
  have I1 : Inv X pins σ H { s with heap := h' } := I.turned (t' := s.toks) (fun b o hb e => (sb.2 b hb).trans e) f0 f1 f3 f4 f5
  obtain ⟨o, e, c, d⟩ := id st'
  exact ⟨u, rfl, go_of (s := { s with heap := h' }) e c d (by decide) ⟨x, H, I1, ru, ⟨rfl, fun ys hy => by rw [I.list_inj hy hq]; exact hx⟩, st', fun b hb => (hf b hb).1⟩⟩
 done := by
  intro X hP hw hK hc i pins s σ H E I hf st hg
  subst hP hw hK
  obtain ⟨xs, hq, hx⟩ := hg
  obtain ⟨its, rv, p, hz⟩ := I.list hq
  obtain ⟨f0, f1, f2, f3, f4, f5⟩ := hf it (by simp)
  have hl := rv.length
  exact wpAny_pyNext_list_end (I.ok.hd hc) st p.isList (by simp; omega) fun h' eb => ⟨rfl, I.turned (t' := s.toks) (fun b o hb e => eb b o hb e) f0 f1 f3 f4 f5⟩
 self := fun _ _ _ _ _ st h => wpAny_pyIter_listiter st h
theorem turn_tuple {P : Program} {w : World} {K : PySem.W.Frag} {tg : Expr} (a it : Addr) : Turn P w K tg (Itt K a) [it] it (fun i h => h.IsTupleIter it a i) where
 mem := by simp
 obj := fun i h st b hb => by
  have e : b = it := by simpa using hb
  subst e
  obtain ⟨o, e, c, d⟩ := st
  exact ⟨o, e, fun v z => by rw [d] at z; cases z⟩
 keep := fun i h h' st k => st.at fun o e => k it (by simp) o e
 item := by
  intro X hP hw hK hc i pins s σ H E I hf st hg
  subst hP hw hK
  obtain ⟨xs, x, hq, hx⟩ := hg
  obtain ⟨its, rv, p, hz⟩ := I.tuple hq
  obtain ⟨u, hu, ru⟩ := rv.get hx
  obtain ⟨f0, f1, f2, f3, f4, f5⟩ := hf it (by simp)
  refine wpAny_pyNext_tuple_item st (show s.heap.IsTuple a its.toArray from p) (x := u) (by simpa using hu) fun h' st' sb => ?_
  have I1 : Inv X pins σ H { s with heap := h' } := I.turned (t' := s.toks) (fun b o hb e => (sb.2 b hb).trans e) f0 f1 f3 f4 f5
  obtain ⟨o, e, c, d⟩ := id st'
  exact ⟨u, rfl, go_of (s := { s with heap := h' }) e c d (by decide) ⟨x, H, I1, ru, ⟨rfl, fun ys hy => by rw [I.tuple_inj hy hq]; exact hx⟩, st', fun b hb => (hf b hb).1⟩⟩
 done := by
  intro X hP hw hK hc i pins s σ H E I hf st hg
  subst hP hw hK
  obtain ⟨xs, hq, hx⟩ := hg
  obtain ⟨its, rv, p, hz⟩ := I.tuple hq
  obtain ⟨f0, f1, f2, f3, f4, f5⟩ := hf it (by simp)
  have hl := rv.length
  exact wpAny_pyNext_tuple_end (I.ok.hd hc) st (show s.heap.IsTuple a its.toArray from p) (by simp; omega) fun h' eb => ⟨rfl, I.turned (t' := s.toks) (fun b o hb e => eb b o hb e) f0 f1 f3 f4 f5⟩
 self := fun _ _ _ _ _ st h => wpAny_pyIter_tupleiter st h
theorem turn_range {P : Program} {w : World} {K : PySem.W.Frag} {tg : Expr} (it : Addr) (lo : Int) (n : Nat) : Turn P w K tg (Itr lo n) [it] it (fun i h => IsRangeIter h it (lo + (i : Nat) * 1) ((n : Int) - (i : Nat)) 1) where
 mem := by simp
 obj := fun i h st b hb => by
  have e : b = it := by simpa using hb
  subst e
  exact ⟨_, st, fun v z => by
   have z' : Data.fields _ = Data.cell v := z
   cases z'⟩
 keep := fun i h h' st k => k it (by simp) _ st
 item := by
  intro X hP hw hK hc i pins s σ H E I hf st hg
  subst hP hw hK
  obtain ⟨f0, f1, f2, f3, f4, f5⟩ := hf it (by simp)
  have W := Walks.range (prog := X.prog) (w := X.w) (I.ok.hd hc) it lo 1 n
  refine W.item i s _ _ hg st fun v h' tk hv st' kk => ?_
  obtain ⟨t, rfl⟩ := hv
  have I1 : Inv X pins σ H { s with heap := h', toks := tk } := I.turned (fun b o hb e => kk b o (by simpa using hb) e) f0 f1 f3 f4 f5
  refine ⟨_, rfl, go_of (s := { s with heap := h', toks := tk }) (n := "range_iterator") st' rfl rfl (by decide) ⟨.int (lo + i), H, I1, ⟨t, ?_⟩, ⟨rfl, rfl⟩, st', fun b hb => (hf b hb).1⟩⟩
  rw [Int.mul_one]
 done := by
  intro X hP hw hK hc i pins s σ H E I hf st hg
  subst hP hw hK
  obtain ⟨f0, f1, f2, f3, f4, f5⟩ := hf it (by simp)
  exact wpAny_pyNext_range_end (I.ok.hd hc) st (by have : n ≤ i := hg; omega) fun h' eb => ⟨rfl, I.turned (t' := s.toks) (fun b o hb e => eb b o hb e) f0 f1 f3 f4 f5⟩
 self := fun _ _ _ _ _ st h => wpAny_pyIter_rangeiter st h
end L2
namespace L2
open PySem PySem.Spec PyProof.Rows
section
variable {X : Cx} {tg : Expr}
noncomputable def iList (K : PySem.W.Frag) (tl : TE) : TI := fun σ H R => tl σ H fun x H1 => ∃ a, x = .ref a ∧ (∃ xs, SqL K H1 a xs) ∧ R (Itl K a) H1
noncomputable def iTup (K : PySem.W.Frag) (tl : TE) : TI := fun σ H R => tl σ H fun x H1 => ∃ a, x = .ref a ∧ (∃ xs, SqT K H1 a xs) ∧ R (Itt K a) H1
theorem pi_list {l : Expr} {tl : TE} (hl : PE X l tl) : PI X tg l (iList X.K tl) := by
 intro pins s σ H R I h
 refine thn (hl pins s σ H _ I h) fun v s1 ⟨x, H1, I1, r1, q1⟩ => ?_
 obtain ⟨a, e, ⟨xs, hq⟩, q⟩ := q1
 subst e
 cases r1
 obtain ⟨its, rv, p, hz⟩ := I1.list hq
 refine wpAny_pyIter_list p.isList ?_
 refine ⟨s1.heap.objs.size, [s1.heap.objs.size], _, _, H1, rfl, I1.kept (t' := s1.toks) fun b o e => Heap.get?_push_of_some _ e, turn_list a _, ⟨_, Heap.get?_push_size _ rfl, rfl, rfl⟩, fun b hb => ?_, q⟩
 have e : b = s1.heap.objs.size := by simpa using hb
 subst e
 exact I1.fpOk (Nat.le_refl _) (I1.hok.fresh (Nat.le_refl _))
theorem pi_tup {l : Expr} {tl : TE} (hl : PE X l tl) : PI X tg l (iTup X.K tl) := by
 intro pins s σ H R I h
 refine thn (hl pins s σ H _ I h) fun v s1 ⟨x, H1, I1, r1, q1⟩ => ?_
 obtain ⟨a, e, ⟨xs, hq⟩, q⟩ := q1
 subst e
 cases r1
 obtain ⟨its, rv, p, hz⟩ := I1.tuple hq
 refine wpAny_pyIter_tuple (show s1.heap.IsTuple a its.toArray from p) ?_
 refine ⟨s1.heap.objs.size, [s1.heap.objs.size], _, _, H1, rfl, I1.kept (t' := s1.toks) fun b o e => Heap.get?_push_of_some _ e, turn_tuple a _, ⟨_, Heap.get?_push_size _ rfl, rfl, rfl⟩, fun b hb => ?_, q⟩
 have e : b = s1.heap.objs.size := by simpa using hb
 subst e
 exact I1.fpOk (Nat.le_refl _) (I1.hok.fresh (Nat.le_refl _))
theorem range_it {pins : List (Addr × Obj)} {σ : St} {H : Hp} {s : Shared} {R : It → Hp → Prop} {E : Value → Shared → Prop} {lo hi : Int} {t u v : Tok} {tk : Nat} (I : Inv X pins σ H s) (h1 : -(2 ^ 62) ≤ lo) (h2 : lo < 2 ^ 62) (h3 : -(2 ^ 62) ≤ hi) (h4 : hi < 2 ^ 62)
  (q : R (Itr lo (hi - lo).toNat) H) : wpAny (model X.prog X.w) X.A (pyIter (.ref s.heap.objs.size)) (PIE X pins σ tg R) E { s with heap := s.heap.push { cls := .type "range", data := .fields #[.int lo t, .int hi u, .int 1 v] }, toks := tk } := by
 refine wpAny_pyIter_range (IsRange.new ..) (small_one h1 h2 h3 h4) ?_
 have I1 : Inv X pins σ H { s with heap := s.heap.push { cls := .type "range", data := .fields #[.int lo t, .int hi u, .int 1 v] }, toks := tk } := I.kept fun b o e => Heap.get?_push_of_some _ e
 refine ⟨(s.heap.push { cls := .type "range", data := .fields #[.int lo t, .int hi u, .int 1 v] }).objs.size, [(s.heap.push { cls := .type "range", data := .fields #[.int lo t, .int hi u, .int 1 v] }).objs.size], _, _, H, rfl,
  I1.kept (t' := tk) fun b o e => Heap.get?_push_of_some _ e, turn_range _ lo (hi - lo).toNat, ?_, fun b hb => ?_, q⟩
 ·have e1 : lo + ((0 : Nat) : Int) * 1 = lo := by simp
  have e2 : (((hi - lo).toNat : Nat) : Int) - ((0 : Nat) : Int) = Builtin.Range.rangeSize lo hi 1 := by rw [rangeSize_one]; split <;> omega
  show IsRangeIter _ _ (lo + ((0 : Nat) : Int) * 1) ((((hi - lo).toNat : Nat) : Int) - ((0 : Nat) : Int)) 1
  rw [e1, e2]
  exact Heap.get?_push_size _ rfl
 ·have e : b = (s.heap.push { cls := .type "range", data := .fields #[.int lo t, .int hi u, .int 1 v] }).objs.size := by simpa using hb
  subst e
  exact I1.fpOk (Nat.le_refl _) (I1.hok.fresh (Nat.le_refl _))
noncomputable def iRng1 (ta : TA) : TI := fun σ H R => ta σ H fun vs H1 => ∃ j : Int, vs = [.int j] ∧ -(2 ^ 62) ≤ j ∧ j < 2 ^ 62 ∧ R (Itr 0 j.toNat) H1
theorem pi_range1 {a : Expr} {ta : TA} {p pos : Pos} (hg : Gl X "range") (hm : X.mg "range" = none) (ha : PA X [a] ta) (hs : starEach [a] X.env = [(false, eval a X.env)] := by rfl) : PI X tg (.Call (.Name "range" p) [a] [] pos) (iRng1 ta) := by
 intro pins s σ H R I h
 refine Call_ (ld_blt I hg hm boot_range (PyProof.Rows.callWith_type1 (thn (ha pos pins s σ H _ I h) fun us s1 ⟨vs, H1, I1, r1, q1⟩ => ?_) hs rfl))
 obtain ⟨j, e, q1, q2, q⟩ := q1
 subst e
 cases r1 with
 | cons r rr =>
  cases rr
  obtain ⟨t, rfl⟩ := r
  exact call_range_1 (range_it I1 (by omega) (by omega) q1 q2 (by simpa using q))
noncomputable def tFor (wi : TI) (g : TG) (tb : TS) : TS := fun D σ H => wi σ H fun J H1 => ∃ W : Nat → Nat → St → Hp → Prop, (∃ m, W 0 m σ H1) ∧ ∀ i m σ H, W i m σ H →
 (J.stop i H ∧ D.nx σ H) ∨ (J.go i H ∧ ∃ N : St → Hp → Prop, (∀ σ' H', N σ' H' → ∃ m', m' < m ∧ W (i + 1) m' σ' H') ∧ ∀ x H', J.yld i H x H' → g x σ H' fun σ2 H2 => tb { D with nx := N, ct := N, bk := D.nx } σ2 H2)
noncomputable def pinsAt (fp : List Addr) (h : Heap) : List (Addr × Obj) := fp.filterMap fun b => (h.get? b).map fun o => (b, o)
theorem mem_pinsAt {fp : List Addr} {h : Heap} {b : Addr} {o : Obj} (hb : b ∈ fp) (e : h.get? b = some o) : (b, o) ∈ pinsAt fp h := List.mem_filterMap.mpr ⟨b, hb, by rw [e]; rfl⟩
theorem of_pinsAt {fp : List Addr} {h : Heap} {p : Addr × Obj} (hp : p ∈ pinsAt fp h) : p.1 ∈ fp ∧ h.get? p.1 = some p.2 := by
 obtain ⟨b, hb, e⟩ := List.mem_filterMap.mp hp
 cases q : h.get? b with
 | none => rw [q] at e; cases e
 | some o =>
  rw [q] at e
  have e' : (b, o) = p := Option.some.inj e
  subst e'
  exact ⟨hb, q⟩
theorem Inv.pinned {pins : List (Addr × Obj)} {σ : St} {H : Hp} {s : Shared} {fp : List Addr} (I : Inv X pins σ H s) (hf : ∀ b ∈ fp, FpOk X pins H b) (ho : ∀ b ∈ fp, ∃ o, s.heap.get? b = some o ∧ ∀ v, o.data ≠ .cell v) : Inv X (pins ++ pinsAt fp s.heap) σ H s :=
 I.pins_of fun p hp => (List.mem_append.mp hp).elim (fun z => I.pin p (List.mem_append_right _ z)) fun z => by
  obtain ⟨hb, e⟩ := of_pinsAt z
  obtain ⟨f0, f1, f2, _⟩ := hf p.1 hb
  obtain ⟨o, e', d⟩ := ho p.1 hb
  rw [e] at e'; cases e'
  exact ⟨e, f0, f1, f2, d⟩
theorem Inv.unpinned {pins pl : List (Addr × Obj)} {σ : St} {H : Hp} {s : Shared} (I : Inv X (pins ++ pl) σ H s) : Inv X pins σ H s := I.pins_of fun p hp => I.pin p (List.mem_append_right _ (List.mem_append_left _ hp))
theorem ps_for {iter : Expr} {body : List Stmt} {wi : TI} {g : TG} {tb : TS} {pos : Pos} (hp : PassesOwn (model X.prog X.w) X.A X.env X.xe) (hc : X.calm = true) (hi : PI X tg iter wi) (hg : PG X tg g) (hb : PSs X body tb)
  (hs : ∀ x, foldedSetIterable iter X.env x = pure x := by intro _; rfl) : PS X (.For tg iter body [] pos) (tFor wi g tb) := by
 intro pins s σ H D I h
 refine wpAny_For (thn (hi pins s σ H _ I h) fun v s1 h1 => thn h1 fun itv s2 h2 => ?_) hs
 obtain ⟨it, fp, tn, J, H2, e, I2, T, st2, f2, W, ⟨m0, w0⟩, turn⟩ := h2
 subst e
 -- what stays true of the iterator's objects through the loop
 have stat : ∀ {H' : Hp}, (∀ b ∈ fp, H' b = none) → ∀ b ∈ fp, FpOk X pins H' b := fun hn b hb => ⟨hn b hb, (f2 b hb).2⟩
 refine codeAny_forLoop_any (fun n s' => ∃ i σ' H', Inv X pins σ' H' s' ∧ tn i s'.heap ∧ (∀ b ∈ fp, H' b = none) ∧ W i n σ' H') ?_ m0 ⟨0, σ, H2, I2, st2, fun b hb => (f2 b hb).1, w0⟩
 rintro n s3 ⟨i, σ3, H3, I3, st3, fr3, w3⟩
 rcases turn i n σ3 H3 w3 with ⟨stop, qn⟩ | ⟨go, N, hN, step⟩
 ·refine wpAny_passesOwn hp (thn (T.done X rfl rfl rfl hc i pins s3 σ3 H3 X.xe I3 (stat fr3) st3 stop) fun r s4 ⟨hr, I4⟩ => ?_)
  subst hr
  exact wpAny_execs_nil ⟨σ3, H3, I4, qn⟩
 ·refine wpAny_passesOwn hp (thn (T.item X rfl rfl rfl hc i pins s3 σ3 H3 X.xe I3 (stat fr3) st3 go) fun r s4 ⟨u, hr, h4⟩ => ?_)
  subst hr
  refine wpAny_passesOwn hp (thn h4 fun _ s5 ⟨x, H5, I5, r5, y5, st5, fr5⟩ => ?_)
  have I5' := I5.pinned (stat fr5) (T.obj _ _ st5)
  refine wpAny_passesOwn hp (thn (hg _ s5 σ3 H5 x u _ I5' r5 (step x H5 y5)) fun _ s6 ⟨σ6, H6, I6, q6⟩ => ?_)
  refine wpAny_passesOwn hp (thn (hb _ s6 σ6 H6 _ I6 q6) fun f s7 q7 => ?_)
  have again : ∀ {σ7 : St} {H7 : Hp}, Inv X (pins ++ pinsAt fp s5.heap) σ7 H7 s7 → N σ7 H7 → ∃ m, m < n ∧ ∃ i σ' H', Inv X pins σ' H' s7 ∧ tn i s7.heap ∧ (∀ b ∈ fp, H' b = none) ∧ W i m σ' H' := fun {σ7 H7} I7 n7 => by
   obtain ⟨m', hm, w7⟩ := hN σ7 H7 n7
   refine ⟨m', hm, i + 1, σ7, H7, I7.unpinned, T.keep _ _ _ st5 fun b hb o e => (I7.pin (b, o) (List.mem_append_right _ (List.mem_append_right _ (mem_pinsAt hb e)))).1, fun b hb => ?_, w7⟩
   obtain ⟨o, e, d⟩ := T.obj _ _ st5 b hb
   exact (I7.pin (b, o) (List.mem_append_right _ (List.mem_append_right _ (mem_pinsAt hb e)))).2.1
  cases f with
  | next => obtain ⟨σ7, H7, I7, n7⟩ := q7; exact again I7 n7
  | cont => obtain ⟨σ7, H7, I7, n7⟩ := q7; exact again I7 n7
  | brk => obtain ⟨σ7, H7, I7, q7⟩ := q7; exact ⟨σ7, H7, I7.unpinned, q7⟩
  | ret v => obtain ⟨x7, σ7, H7, I7, r7, q7⟩ := q7; exact ⟨x7, σ7, H7, I7.unpinned, r7, q7⟩
end
theorem for_list {K : PySem.W.Frag} {a : Addr} {xs : List V} {g : TG} {tb : TS} {D : Ends} {σ : St} {H : Hp} (Pv : Nat → St → Hp → Prop) (h0 : Pv 0 σ H) (hl : ∀ i σ H, i ≤ xs.length → Pv i σ H → SqL K H a xs)
  (hs : ∀ i x σ H, xs[i]? = some x → Pv i σ H → g x σ H fun σ2 H2 => tb { D with nx := Pv (i + 1), ct := Pv (i + 1), bk := D.nx } σ2 H2) (hd : ∀ σ H, Pv xs.length σ H → D.nx σ H) :
  ∃ W : Nat → Nat → St → Hp → Prop, (∃ m, W 0 m σ H) ∧ ∀ i m σ H, W i m σ H →
   ((Itl K a).stop i H ∧ D.nx σ H) ∨ ((Itl K a).go i H ∧ ∃ N : St → Hp → Prop, (∀ σ' H', N σ' H' → ∃ m', m' < m ∧ W (i + 1) m' σ' H') ∧ ∀ x H', (Itl K a).yld i H x H' → g x σ H' fun σ2 H2 => tb { D with nx := N, ct := N, bk := D.nx } σ2 H2) := by
 refine ⟨fun i m σ H => m = xs.length - i ∧ i ≤ xs.length ∧ Pv i σ H, ⟨xs.length, by simp, Nat.zero_le _, h0⟩, ?_⟩
 rintro i m σ H ⟨rfl, hi, p⟩
 have q := hl i σ H hi p
 by_cases hlt : i < xs.length
 ·refine .inr ⟨⟨xs, xs[i], q, by simp [hlt]⟩, Pv (i + 1), fun σ' H' p' => ⟨xs.length - (i + 1), by omega, rfl, hlt, p'⟩, fun x H' y => ?_⟩
  obtain ⟨e, y⟩ := y
  subst e
  exact hs i x σ _ (y xs q) p
 ·have e : i = xs.length := by omega
  subst e
  exact .inl ⟨⟨xs, q, Nat.le_refl _⟩, hd σ H p⟩
theorem for_range {lo : Int} {n : Nat} {g : TG} {tb : TS} {D : Ends} {σ : St} {H : Hp} (Pv : Nat → St → Hp → Prop) (h0 : Pv 0 σ H)
  (hs : ∀ i σ H, i < n → Pv i σ H → g (.int (lo + i)) σ H fun σ2 H2 => tb { D with nx := Pv (i + 1), ct := Pv (i + 1), bk := D.nx } σ2 H2) (hd : ∀ σ H, Pv n σ H → D.nx σ H) :
  ∃ W : Nat → Nat → St → Hp → Prop, (∃ m, W 0 m σ H) ∧ ∀ i m σ H, W i m σ H →
   ((Itr lo n).stop i H ∧ D.nx σ H) ∨ ((Itr lo n).go i H ∧ ∃ N : St → Hp → Prop, (∀ σ' H', N σ' H' → ∃ m', m' < m ∧ W (i + 1) m' σ' H') ∧ ∀ x H', (Itr lo n).yld i H x H' → g x σ H' fun σ2 H2 => tb { D with nx := N, ct := N, bk := D.nx } σ2 H2) := by
 refine ⟨fun i m σ H => m = n - i ∧ i ≤ n ∧ Pv i σ H, ⟨n, by simp, Nat.zero_le _, h0⟩, ?_⟩
 rintro i m σ H ⟨rfl, hi, p⟩
 by_cases hlt : i < n
 ·refine .inr ⟨hlt, Pv (i + 1), fun σ' H' p' => ⟨n - (i + 1), by omega, rfl, hlt, p'⟩, fun x H' y => ?_⟩
  obtain ⟨e, y⟩ := y
  subst e y
  exact hs i σ _ hlt p
 ·have e : i = n := by omega
  subst e
  exact .inl ⟨Nat.le_refl _, hd σ H p⟩
end L2
namespace L2
open PySem PySem.Spec PyProof.Rows
noncomputable abbrev R2 := V → V → Hp → VK → Prop
noncomputable def OpR (X : Cx) (f : Value → Value → Sem Value) (r : R2) : Prop :=
 ∀ (pins : List (Addr × Obj)) (s : Shared) (σ : St) (H : Hp) (x y : V) (v u : Value) (Q : VK), Inv X pins σ H s → RelV x v → RelV y u → r x y H Q →
  wpAny (model X.prog X.w) X.A (f v u) (EP X pins σ Q) X.xe s
noncomputable def UnR (X : Cx) (f : Value → Sem Value) (r : V → Hp → VK → Prop) : Prop :=
 ∀ (pins : List (Addr × Obj)) (s : Shared) (σ : St) (H : Hp) (x : V) (v : Value) (Q : VK), Inv X pins σ H s → RelV x v → r x H Q →
  wpAny (model X.prog X.w) X.A (f v) (EP X pins σ Q) X.xe s
noncomputable def CallR (X : Cx) (f : Value) (r : List V → Hp → VK → Prop) : Prop :=
 ∀ (pins : List (Addr × Obj)) (s : Shared) (σ : St) (H : Hp) (xs : List V) (us : List Value) (Q : VK), Inv X pins σ H s → Vals xs us → r xs H Q →
  wpAny (model X.prog X.w) X.A (call f us) (EP X pins σ Q) X.xe s
noncomputable def TruR (X : Cx) (r : V → Hp → (Bool → Hp → Prop) → Prop) : Prop :=
 ∀ (pins : List (Addr × Obj)) (s : Shared) (σ : St) (H : Hp) (x : V) (v : Value) (Q : Bool → Hp → Prop), Inv X pins σ H s → RelV x v → r x H Q →
  wpAny (model X.prog X.w) X.A (truthy v) (TP X pins σ Q) X.xe s
noncomputable def tOp (r : R2) (ta tb : TE) : TE := fun σ H Q => ta σ H fun x H1 => tb σ H1 fun y H2 => r x y H2 Q
noncomputable def tUn (r : V → Hp → VK → Prop) (ta : TE) : TE := fun σ H Q => ta σ H fun x H1 => r x H1 Q
noncomputable def rI (C : Int → Int → Prop) (g : Int → Int → V) : R2 := fun x y H Q => ∃ i j, x = .int i ∧ y = .int j ∧ C i j ∧ Q (g i j) H
noncomputable def rI0 (g : Int → Int → V) : R2 := fun x y H Q => ∃ i j, x = .int i ∧ y = .int j ∧ Q (g i j) H
noncomputable def rU (g : Int → V) : V → Hp → VK → Prop := fun x H Q => ∃ i, x = .int i ∧ Q (g i) H
section
variable {X : Cx} {a b c : Expr} {ta tb tc : TE} {pos : Pos}
theorem binT (ha : PE X a ta) (hb : PE X b tb) {pins : List (Addr × Obj)} {s : Shared} {σ : St} {H : Hp} {R : V → V → Hp → Prop} (I : Inv X pins σ H s)
  (h : ta σ H fun x H1 => tb σ H1 fun y H2 => R x y H2) {Q : Value → Shared → Prop} {f : Value → Value → Sem Value}
  (hf : ∀ v u s2 x y H2, Inv X pins σ H2 s2 → RelV x v → RelV y u → R x y H2 → wpAny (model X.prog X.w) X.A (f v u) Q X.xe s2) :
  wpAny (model X.prog X.w) X.A (eval a X.env) (fun v s₁ => wpAny (model X.prog X.w) X.A (eval b X.env) (fun u s₂ => wpAny (model X.prog X.w) X.A (f v u) Q X.xe s₂) X.xe s₁) X.xe s := by
 refine thn (ha pins s σ H _ I h) fun v s1 ⟨x, H1, I1, r1, q1⟩ => ?_
 refine thn (hb pins s1 σ H1 _ I1 q1) fun u s2 ⟨y, H2, I2, r2, q2⟩ => ?_
 exact hf v u s2 x y H2 I2 r1 r2 q2
theorem pe_op {op : Operator} {r : R2} (ho : OpR X (binaryOp op) r) (ha : PE X a ta) (hb : PE X b tb) : PE X (.BinOp a op b pos) (tOp r ta tb) := by
 intro pins s σ H Q I h
 exact wpAny_BinOp (binT ha hb I h fun v u s2 x y H2 I2 rx ry q => ho pins s2 σ H2 x y v u Q I2 rx ry q)
theorem pe_un {op : UnaryOp} {r : V → Hp → VK → Prop} (ho : UnR X (unaryOp op) r) (ha : PE X a ta) : PE X (.UnaryOp op a pos) (tUn r ta) := by
 intro pins s σ H Q I h
 exact UnaryOp_ (thn (ha pins s σ H _ I h) fun v s1 ⟨x, H1, I1, r1, q1⟩ => ho pins s1 σ H1 x v Q I1 r1 q1)
theorem opI {f : Value → Value → Sem Value} {C : Int → Int → Prop} {g : Int → Int → Int}
  (rule : ∀ (i j : Int) (t u : Tok) (s : Shared) (Q : Value → Shared → Prop) (E : Value → Shared → Prop), C i j → Q (.int (g i j) s.toks) { s with toks := s.toks + 1 } → wpAny (model X.prog X.w) X.A (f (.int i t) (.int j u)) Q E s) :
  OpR X f (rI C fun i j => .int (g i j)) := by
 intro pins s σ H x y v u Q I rx ry h
 obtain ⟨i, j, rfl, rfl, hc, q⟩ := h
 obtain ⟨t, rfl⟩ := rx
 obtain ⟨t', rfl⟩ := ry
 exact rule i j t t' s _ _ hc ⟨.int (g i j), H, I.tok _, ⟨_, rfl⟩, q⟩
theorem opI0 {f : Value → Value → Sem Value} {g : Int → Int → Int}
  (rule : ∀ (i j : Int) (t u : Tok) (s : Shared) (Q : Value → Shared → Prop) (E : Value → Shared → Prop), Q (.int (g i j) s.toks) { s with toks := s.toks + 1 } → wpAny (model X.prog X.w) X.A (f (.int i t) (.int j u)) Q E s) :
  OpR X f (rI0 fun i j => .int (g i j)) := by
 intro pins s σ H x y v u Q I rx ry h
 obtain ⟨i, j, rfl, rfl, q⟩ := h
 obtain ⟨t, rfl⟩ := rx
 obtain ⟨t', rfl⟩ := ry
 exact rule i j t t' s _ _ ⟨.int (g i j), H, I.tok _, ⟨_, rfl⟩, q⟩
theorem opB0 {f : Value → Value → Sem Value} {g : Int → Int → Bool}
  (rule : ∀ (i j : Int) (t u : Tok) (s : Shared) (Q : Value → Shared → Prop) (E : Value → Shared → Prop), Q (.bool (g i j)) s → wpAny (model X.prog X.w) X.A (f (.int i t) (.int j u)) Q E s) :
  OpR X f (rI0 fun i j => .bl (g i j)) := by
 intro pins s σ H x y v u Q I rx ry h
 obtain ⟨i, j, rfl, rfl, q⟩ := h
 obtain ⟨t, rfl⟩ := rx
 obtain ⟨t', rfl⟩ := ry
 exact rule i j t t' s _ _ ⟨.bl (g i j), H, I, rfl, q⟩
noncomputable def CPow (i j : Int) : Prop := 0 ≤ j ∧ j ≤ 1000000 ∧ i.natAbs < 2 ^ 64
noncomputable def CMul (i j : Int) : Prop := (-(2 ^ 64) < i ∧ i < 2 ^ 64) ∨ (-(2 ^ 64) < j ∧ j < 2 ^ 64)
theorem CMul.ok {i j : Int} (h : CMul i j) : IntMulOk i j := by
 rcases h with ⟨h1, h2⟩ | ⟨h1, h2⟩
 ·exact .of_left (intBits_le_64 h1 h2)
 ·exact .of_right (intBits_le_64 h1 h2)
theorem op_add : OpR X (binaryOp .Add) (rI0 fun i j => .int (i + j)) := opI0 fun _ _ _ _ _ _ _ q => add_int q
theorem op_sub : OpR X (binaryOp .Sub) (rI0 fun i j => .int (i - j)) := opI0 fun _ _ _ _ _ _ _ q => sub_int q
theorem op_mod : OpR X (binaryOp .Mod) (rI (fun _ j => 0 < j) fun i j => .int (i % j)) := opI fun i j _ _ _ _ _ hc q => by
 have h1 : (0 : Int) < j := hc
 exact mod_int' (by omega) (by rw [Int.fmod_eq_emod_of_nonneg i (by omega)]; exact q)
theorem op_pow : OpR X (binaryOp .Pow) (rI CPow fun i j => .int (i ^ j.toNat)) := opI fun _ _ _ _ _ _ _ hc q => pow_int_small hc.1 hc.2.1 hc.2.2 q
theorem unI {f : Value → Sem Value} {g : Int → Int}
  (rule : ∀ (i : Int) (t : Tok) (s : Shared) (Q : Value → Shared → Prop) (E : Value → Shared → Prop), Q (.int (g i) s.toks) { s with toks := s.toks + 1 } → wpAny (model X.prog X.w) X.A (f (.int i t)) Q E s) :
  UnR X f (rU fun i => .int (g i)) := by
 intro pins s σ H x v Q I rx h
 obtain ⟨i, rfl, q⟩ := h
 obtain ⟨t, rfl⟩ := rx
 exact rule i t s _ _ ⟨.int (g i), H, I.tok _, ⟨_, rfl⟩, q⟩
theorem un_neg : UnR X (unaryOp .USub) (rU fun i => .int (-i)) := unI fun _ _ _ _ _ q => neg_int q
end
noncomputable def scal : V → V → Bool
 | .non, .non => true | .non, .int _ => true | .int _, .non => true | .non, .bl _ => true | .bl _, .non => true | .non, .str _ => true | .str _, .non => true
 | .int _, .int _ => true | .bl _, .bl _ => true | .str _, .str _ => true | .byt _, .byt _ => true
 | .int _, .str _ => true | .str _, .int _ => true | .bl _, .str _ => true | .str _, .bl _ => true
 | _, _ => false
noncomputable def rEq : R2 := fun x y H Q => scal x y = true ∧ Q (.bl (decide (x = y))) H
noncomputable def rNe : R2 := fun x y H Q => scal x y = true ∧ Q (.bl (!decide (x = y))) H
theorem dec_int {i j : Int} : decide (V.int i = V.int j) = (i == j) := by
 rw [Bool.eq_iff_iff]
 simp
theorem dec_bl {i j : Bool} : decide (V.bl i = V.bl j) = (i == j) := by
 rw [Bool.eq_iff_iff]
 simp
theorem dec_str {i j : Str} : decide (V.str i = V.str j) = (i == j) := by
 rw [Bool.eq_iff_iff]
 simp
theorem dec_byt {i j : Array UInt8} : decide (V.byt i = V.byt j) = (i.toList == j.toList) := by
 rw [Bool.eq_iff_iff]
 cases i
 cases j
 simp
section
variable {X : Cx} {a b c : Expr} {ta tb tc : TE} {pos : Pos}
theorem fin_bl {pins : List (Addr × Obj)} {σ : St} {H : Hp} {s : Shared} {Q : VK} {k k' : Bool} (I : Inv X pins σ H s) (q : Q (.bl k) H) (e : k = k') : EP X pins σ Q (.bool k') s := by
 subst e
 exact ⟨.bl k, H, I, rfl, q⟩
theorem op_eq : OpR X (compareOp .Eq) rEq := by
 intro pins s σ H x y v u Q I rx ry h
 obtain ⟨hs, q⟩ := h
 cases x with
 | non =>
  cases rx
  cases y with
  | non => cases ry; exact PySem.EqNone.eq_none_none (fin_bl I q (by simp))
  | bl j => cases ry; exact PySem.EqNone.eq_none_bool (fin_bl I q (by simp))
  | int j => obtain ⟨t', rfl⟩ := ry; exact PySem.EqNone.eq_none_int (fin_bl I q (by simp))
  | str j => obtain ⟨t', rfl⟩ := ry; exact PySem.EqNone.eq_none_str (fin_bl I q (by simp))
  | _ => exact absurd (show false = true from hs) Bool.false_ne_true
 | bl i =>
  cases rx
  cases y with
  | non => cases ry; exact PySem.EqNone.eq_bool_none (fin_bl I q (by simp))
  | bl j => cases ry; exact eq_bool (fin_bl I q dec_bl)
  | str j => obtain ⟨t', rfl⟩ := ry; exact PySem.EqMixed.eq_bool_str (fin_bl I q (by simp))
  | _ => exact absurd (show false = true from hs) Bool.false_ne_true
 | int i =>
  obtain ⟨t, rfl⟩ := rx
  cases y with
  | non => cases ry; exact PySem.EqNone.eq_int_none (fin_bl I q (by simp))
  | int j => obtain ⟨t', rfl⟩ := ry; exact eq_int (fin_bl I q dec_int)
  | str j => obtain ⟨t', rfl⟩ := ry; exact PySem.EqMixed.eq_int_str (fin_bl I q (by simp))
  | _ => exact absurd (show false = true from hs) Bool.false_ne_true
 | str i =>
  obtain ⟨t, rfl⟩ := rx
  cases y with
  | non => cases ry; exact PySem.EqNone.eq_str_none (fin_bl I q (by simp))
  | bl j => cases ry; exact PySem.EqMixed.eq_str_bool (fin_bl I q (by simp))
  | int j => obtain ⟨t', rfl⟩ := ry; exact PySem.EqMixed.eq_str_int (fin_bl I q (by simp))
  | str j => obtain ⟨t', rfl⟩ := ry; exact eq_str (fin_bl I q dec_str)
  | _ => exact absurd (show false = true from hs) Bool.false_ne_true
 | byt i =>
  obtain ⟨t, rfl⟩ := rx
  cases y with
  | byt j => obtain ⟨t', rfl⟩ := ry; exact PySem.W.eq_bytes (fin_bl I q dec_byt)
  | _ => exact absurd (show false = true from hs) Bool.false_ne_true
 | _ => cases y <;> exact absurd (show false = true from hs) Bool.false_ne_true
theorem op_ne : OpR X (compareOp .NotEq) rNe := by
 intro pins s σ H x y v u Q I rx ry h
 obtain ⟨hs, q⟩ := h
 cases x with
 | non =>
  cases rx
  cases y with
  | non => cases ry; exact PySem.EqNone.ne_none_none (fin_bl I q (by simp))
  | bl j => cases ry; exact PySem.EqNone.ne_none_bool (fin_bl I q (by simp))
  | int j => obtain ⟨t', rfl⟩ := ry; exact PySem.EqNone.ne_none_int (fin_bl I q (by simp))
  | str j => obtain ⟨t', rfl⟩ := ry; exact PySem.EqNone.ne_none_str (fin_bl I q (by simp))
  | _ => exact absurd (show false = true from hs) Bool.false_ne_true
 | bl i =>
  cases rx
  cases y with
  | non => cases ry; exact PySem.EqNone.ne_bool_none (fin_bl I q (by simp))
  | bl j => cases ry; exact ne_bool (fin_bl I q (congrArg not dec_bl))
  | str j => obtain ⟨t', rfl⟩ := ry; exact PySem.EqMixed.ne_bool_str (fin_bl I q (by simp))
  | _ => exact absurd (show false = true from hs) Bool.false_ne_true
 | int i =>
  obtain ⟨t, rfl⟩ := rx
  cases y with
  | non => cases ry; exact PySem.EqNone.ne_int_none (fin_bl I q (by simp))
  | int j => obtain ⟨t', rfl⟩ := ry; exact ne_int (fin_bl I q (congrArg not dec_int))
  | str j => obtain ⟨t', rfl⟩ := ry; exact PySem.EqMixed.ne_int_str (fin_bl I q (by simp))
  | _ => exact absurd (show false = true from hs) Bool.false_ne_true
 | str i =>
  obtain ⟨t, rfl⟩ := rx
  cases y with
  | non => cases ry; exact PySem.EqNone.ne_str_none (fin_bl I q (by simp))
  | bl j => cases ry; exact PySem.EqMixed.ne_str_bool (fin_bl I q (by simp))
  | int j => obtain ⟨t', rfl⟩ := ry; exact PySem.EqMixed.ne_str_int (fin_bl I q (by simp))
  | str j => obtain ⟨t', rfl⟩ := ry; exact ne_str (fin_bl I q (congrArg not dec_str))
  | _ => exact absurd (show false = true from hs) Bool.false_ne_true
 | byt i =>
  obtain ⟨t, rfl⟩ := rx
  cases y with
  | byt j => obtain ⟨t', rfl⟩ := ry; exact PySem.W.ne_bytes (fin_bl I q (congrArg not dec_byt))
  | _ => exact absurd (show false = true from hs) Bool.false_ne_true
 | _ => cases y <;> exact absurd (show false = true from hs) Bool.false_ne_true
theorem op_lt : OpR X (compareOp .Lt) (rI0 fun i j => .bl (decide (i < j))) := opB0 fun _ _ _ _ _ _ _ q => lt_int q
theorem op_le : OpR X (compareOp .LtE) (rI0 fun i j => .bl (decide (i ≤ j))) := opB0 fun _ _ _ _ _ _ _ q => le_int q
theorem op_gt : OpR X (compareOp .Gt) (rI0 fun i j => .bl (decide (j < i))) := opB0 fun _ _ _ _ _ _ _ q => gt_int q
theorem op_notN : OpR X (compareOp .IsNot) (fun x y H Q => y = .non ∧ Q (.bl (!decide (x = .non))) H) := by
 intro pins s σ H x y v u Q I rx ry h
 obtain ⟨rfl, q⟩ := h
 cases ry
 refine isnot_none_gen (fin_bl I q ?_)
 cases x <;> first
  | (cases rx; rfl)
  | (obtain ⟨t, rfl⟩ := rx; rfl)
theorem nomark (b : Expr) {op : CmpOp} (h : op ≠ .In := by decide) (h2 : op ≠ .NotIn := by decide) : behindInMarks op b = false := by
 have e1 : (op == CmpOp.In) = false := by cases op <;> first | rfl | exact absurd rfl h
 have e2 : (op == CmpOp.NotIn) = false := by cases op <;> first | rfl | exact absurd rfl h2
 cases b <;> simp [behindInMarks, e1, e2]
theorem pe_cmpR {op : CmpOp} {r : R2} (ho : OpR X (compareOp op) r) (ha : PE X a ta) (hb : PE X b tb) (hm : behindInMarks op b = false) : PE X (.Compare a [op] [b] pos) (tOp r ta tb) := by
 intro pins s σ H Q I h
 exact wpAny_Compare1 (binT ha hb I h fun v u s2 x y H2 I2 rx ry q => ho pins s2 σ H2 x y v u Q I2 rx ry q) hm
noncomputable def tTest (t : TE) : TT := fun σ H Q => t σ H fun x H' => ∃ k, x = .bl k ∧ Q k H'
theorem pt_cmpR {op : CmpOp} {r : R2} (ho : OpR X (compareOp op) r) (ha : PE X a ta) (hb : PE X b tb) (hm : behindInMarks op b = false) : PT X (.Compare a [op] [b] pos) (tTest (tOp r ta tb)) := by
 intro pins s σ H Q I h
 refine wpAny_isTrue_Compare1 (thn (ha pins s σ H _ I h) fun v s1 ⟨x, H1, I1, r1, q1⟩ => thn (hb pins s1 σ H1 _ I1 q1) fun u s2 ⟨y, H2, I2, r2, q2⟩ =>
  thn (ho pins s2 σ H2 x y v u _ I2 r1 r2 q2) fun c s3 ⟨z, H3, I3, r3, k, e, q3⟩ => ?_) hm
 subst e
 cases r3
 exact wpAny_truthy_bool ⟨H3, I3, q3⟩
noncomputable def tChain (r r' : R2) (ta tb tc : TE) : TE := fun σ H Q => ta σ H fun x H1 => tb σ H1 fun y H2 => r x y H2 fun z H3 => ∃ k, z = .bl k ∧
 (if k = true then tc σ H3 fun w' H4 => r' y w' H4 Q else Q (.bl false) H3)
theorem pt_chain {op op' : CmpOp} {r r' : R2} (ho : OpR X (compareOp op) r) (ho' : OpR X (compareOp op') r') (ha : PE X a ta) (hb : PE X b tb) (hc : PE X c tc)
  (hm : lastMarks [op, op'] [b, c] = false := by with_unfolding_all rfl) : PT X (.Compare a [op, op'] [b, c] pos) (tTest (tChain r r' ta tb tc)) := by
 intro pins s σ H Q I h
 refine isTrue_chain (thn (ha pins s σ H _ I h) fun v s1 ⟨x, H1, I1, r1, q1⟩ => test_link (thn (hb pins s1 σ H1 _ I1 q1) fun u s2 ⟨y, H2, I2, r2, q2⟩ =>
  thn (ho pins s2 σ H2 x y v u _ I2 r1 r2 q2) fun d s3 ⟨z, H3, I3, r3, k, e, q3⟩ => ?_)) hm
 subst e
 cases r3
 refine wpAny_truthy_bool ?_
 cases k with
 | false =>
  obtain ⟨k', e', q'⟩ := q3
  cases e'
  exact ite_ff ⟨H3, I3, q'⟩
 | true =>
  refine ite_tt (test_last (thn (hc pins s3 σ H3 _ I3 q3) fun w' s4 ⟨z', H4, I4, r4, q4⟩ => thn (ho' pins s4 σ H4 y z' u w' _ I4 r2 r4 q4) fun d' s5 ⟨z2, H5, I5, r5, k2, e2, q5⟩ => ?_))
  subst e2
  cases r5
  exact wpAny_truthy_bool ⟨H5, I5, q5⟩
noncomputable def TruV (K : PySem.W.Frag) (x : V) (H : Hp) (k : Bool) : Prop :=
 match x with
 | .non => k = false
 | .bl b => k = b
 | .int i => k = (i != 0)
 | .str y => y.length ≤ sizeLine ∧ k = ((y.length : Int) != 0)
 | .byt y => y.size ≤ sizeLine ∧ k = ((y.size : Int) != 0)
 | .ref p => (∃ xs, SqL K H p xs ∧ k = !xs.isEmpty) ∨ (∃ xs, SqT K H p xs ∧ k = !xs.isEmpty) ∨ ∃ kvs, H p = some (.dK kvs) ∧ k = !kvs.isEmpty
 | _ => False
theorem isEmpty_kv {κ : Type} {kvs : List (κ × V)} {vs : List (κ × Value)} (r : KV kvs vs) : (!vs.isEmpty) = !kvs.isEmpty := by
 cases r <;> rfl
theorem isEmpty_of {xs : List V} {its : List Value} (r : Vals xs its) : (!its.toArray.isEmpty) = !xs.isEmpty := by
 cases r <;> simp
theorem line63 : (sizeLine : Nat) < 2 ^ 63 := by rw [sizeLine_eq]; decide
theorem tru_ok : TruR X (fun x H Q => ∃ k, TruV X.K x H k ∧ Q k H) := by
 intro pins s σ H x v Q I rx h
 obtain ⟨k, e, q⟩ := h
 have hl := line63
 have hs : sizeLine = 16777216 := sizeLine_eq
 cases x with
 | non =>
  cases rx
  have e' : k = false := e
  subst e'
  exact truthy_none ⟨H, I, q⟩
 | bl b =>
  cases rx
  have e' : k = b := e
  subst e'
  exact wpAny_truthy_bool ⟨H, I, q⟩
 | int i =>
  obtain ⟨t, rfl⟩ := rx
  have e' : k = (i != 0) := e
  subst e'
  exact PySem.P.truthy_int ⟨H, I, q⟩
 | str y =>
  obtain ⟨t, rfl⟩ := rx
  obtain ⟨hy, e'⟩ : y.length ≤ sizeLine ∧ k = ((y.length : Int) != 0) := e
  subst e'
  exact PySem.P.truthy_str (by omega) ⟨H, I.tok _, q⟩
 | byt y =>
  obtain ⟨t, rfl⟩ := rx
  obtain ⟨hy, e'⟩ : y.size ≤ sizeLine ∧ k = ((y.size : Int) != 0) := e
  subst e'
  exact PySem.W.truthy_bytes (by omega) ⟨H, I.tok _, q⟩
 | ref p =>
  cases rx
  have e' : (∃ xs, SqL X.K H p xs ∧ k = !xs.isEmpty) ∨ (∃ xs, SqT X.K H p xs ∧ k = !xs.isEmpty) ∨ ∃ kvs, H p = some (.dK kvs) ∧ k = !kvs.isEmpty := e
  rcases e' with ⟨xs, hx, e'⟩ | ⟨xs, hx, e'⟩ | ⟨kvs, hx, e'⟩
  ·subst e'
   obtain ⟨its, r, pl, hz⟩ := I.list hx
   have hlen := r.length
   exact wpAny_truthy_list pl.isList (by simp only [List.size_toArray]; omega) ⟨H, I.tok _, by rw [isEmpty_of r]; exact q⟩
  ·subst e'
   obtain ⟨its, r, pl, hz⟩ := I.tuple hx
   have hlen := r.length
   exact truthy_tuple pl (by simp only [List.size_toArray]; omega) ⟨H, I.tok _, by rw [isEmpty_of r]; exact q⟩
  ·subst e'
   obtain ⟨hz, hS, vs, r, m⟩ : kvs.length ≤ sizeLine ∧ (p == sysModules) = false ∧ ∃ vs, KV kvs vs ∧ s.heap.DictOf (mixKind X.prog X.w) p vs := I.hok p _ hx
   have hlen : kvs.length = vs.length := Paired.length r
   exact wpAny_truthy_dict hS m (by omega) ⟨H, I.tok _, by rw [isEmpty_kv r]; exact q⟩
 | _ => exact (show False from e).elim
theorem pt_truth (ha : PE X a ta) (he : ∀ whole, isTrue a X.env whole = (do let v ← whole; standAt a.pos; holding [v] (truthy v))) :
  PT X a (fun σ H Q => ta σ H fun x H' => ∃ k, TruV X.K x H' k ∧ Q k H') := by
 intro pins s σ H Q I h
 exact isTrue_plain (thn (ha pins s σ H _ I h) fun v s1 ⟨x, H1, I1, r1, q1⟩ => tru_ok pins s1 σ H1 x v Q I1 r1 q1) (he _)
theorem op_add_str : OpR X (binaryOp .Add) (fun x y H Q => ∃ i j, x = .str i ∧ y = .str j ∧ i.length + j.length ≤ sizeLine ∧ Q (.str (i ++ j)) H) := by
 intro pins s σ H x y v u Q I rx ry h
 obtain ⟨i, j, rfl, rfl, hz, q⟩ := h
 obtain ⟨t, rfl⟩ := rx
 obtain ⟨t', rfl⟩ := ry
 exact add_str (fun t' tk => ⟨.str (i ++ j), H, I.tok _, ⟨_, rfl⟩, q⟩) hz
theorem vals1 {x : V} {us : List Value} (r : Vals [x] us) : ∃ u, us = [u] ∧ RelV x u := by
 cases r with
 | cons r1 r2 => cases r2; exact ⟨_, rfl, r1⟩
theorem vals2 {x y : V} {us : List Value} (r : Vals [x, y] us) : ∃ u w', us = [u, w'] ∧ RelV x u ∧ RelV y w' := by
 cases r with
 | cons r1 r2 =>
  cases r2 with
  | cons r3 r4 => cases r4; exact ⟨_, _, rfl, r1, r3⟩
theorem call_min2 (hc : X.calm = true) : CallR X (.builtin "min") (fun xs H Q => ∃ i j, xs = [.int i, .int j] ∧ Q (.int (if j < i then j else i)) H) := by
 intro pins s σ H xs us Q I r h
 obtain ⟨i, j, rfl, q⟩ := h
 obtain ⟨u, w', rfl, ⟨t, rfl⟩, ⟨t', rfl⟩⟩ := vals2 r
 refine min_two_ints (I.ok.hd hc) fun h' tk k => ⟨_, H, I.kept k, ?_, q⟩
 by_cases hj : j < i
 ·rw [if_pos hj, if_pos hj]; exact ⟨_, rfl⟩
 ·rw [if_neg hj, if_neg hj]; exact ⟨_, rfl⟩
theorem call_int1 : CallR X (.type "int") (fun xs H Q => (∃ i, xs = [.int i] ∧ Q (.int i) H) ∨ ∃ k, xs = [.bl k] ∧ Q (.int (if k then 1 else 0)) H) := by
 intro pins s σ H xs us Q I r h
 rcases h with ⟨i, rfl, q⟩ | ⟨k, rfl, q⟩
 ·obtain ⟨u, rfl, t, rfl⟩ := vals1 r
  exact call_int_int ⟨.int i, H, I, ⟨_, rfl⟩, q⟩
 ·obtain ⟨u, rfl, r1⟩ := vals1 r
  cases r1
  exact call_int_bool ⟨.int (if k then 1 else 0), H, I.tok _, ⟨_, rfl⟩, q⟩
noncomputable def LenV (K : PySem.W.Frag) (x : V) (H : Hp) (n : Nat) : Prop :=
 match x with
 | .str y => y.length ≤ sizeLine ∧ n = y.length
 | .byt y => y.size ≤ sizeLine ∧ n = y.size
 | .ref p => (∃ xs, SqL K H p xs ∧ n = xs.length) ∨ ∃ xs, SqT K H p xs ∧ n = xs.length
 | _ => False
theorem call_len : CallR X (.builtin "len") (fun xs H Q => ∃ x n, xs = [x] ∧ LenV X.K x H n ∧ Q (.int n) H) := by
 intro pins s σ H xs us Q I r h
 obtain ⟨x, n, rfl, e, q⟩ := h
 obtain ⟨u, rfl, rx⟩ := vals1 r
 have hl := line63
 have hs : sizeLine = 16777216 := sizeLine_eq
 cases x with
 | str y =>
  obtain ⟨t, rfl⟩ := rx
  obtain ⟨hy, e'⟩ : y.length ≤ sizeLine ∧ n = y.length := e
  subst e'
  exact len_str (by omega) ⟨.int _, H, I.tok _, ⟨_, rfl⟩, q⟩
 | byt y =>
  obtain ⟨t, rfl⟩ := rx
  obtain ⟨hy, e'⟩ : y.size ≤ sizeLine ∧ n = y.size := e
  subst e'
  exact PySem.W.len_bytes (by omega) ⟨.int _, H, I.tok _, ⟨_, rfl⟩, q⟩
 | ref p =>
  cases rx
  have e' : (∃ xs, SqL X.K H p xs ∧ n = xs.length) ∨ ∃ xs, SqT X.K H p xs ∧ n = xs.length := e
  rcases e' with ⟨xs, hx, e'⟩ | ⟨xs, hx, e'⟩
  ·subst e'
   obtain ⟨its, r', pl, hz⟩ := I.list hx
   have hlen := r'.length
   exact Calls.call_len_list pl.isList (by simp only [List.size_toArray]; omega) ⟨.int xs.length, H, I.tok _, ⟨_, by simp only [List.size_toArray]; rw [hlen]⟩, q⟩
  ·subst e'
   obtain ⟨its, r', pl, hz⟩ := I.tuple hx
   have hlen := r'.length
   exact len_tuple pl (by simp only [List.size_toArray]; omega) ⟨.int xs.length, H, I.tok _, ⟨_, by simp only [List.size_toArray]; rw [hlen]⟩, q⟩
 | _ => exact (show False from e).elim
end
end L2
namespace L2
open PySem PySem.Spec PyProof.Rows
structure ObjM (h : Heap) (x dx C : Addr) (mA : Str → Option Value) : Prop where
 obj : h.get? x = some (PySem.W.instObj C dx)
 ns : h.Ns1 dx mA
 ne : dx ≠ x
theorem lookIn_ns {h : Heap} {dx : Addr} {mA : Str → Option Value} (n : h.Ns1 dx mA) : ∃ od, h.get? dx = some od ∧ ∀ name, PySem.W.lookIn name od = some (mA name) := by
 obtain ⟨o, es, ep, ho, hd, hk, _, hm⟩ := n
 refine ⟨o, ho, fun name => ?_⟩
 have e := hm name
 unfold nsFind findBy at e
 rw [← Array.find?_toList] at e
 unfold PySem.W.lookIn
 rw [hd]
 dsimp only
 split
 ·rename_i y q
  rw [q] at e
  exact congrArg some e
 ·rename_i q
  rw [q] at e
  have a : es.toList.any (·.refKey) = false := by
   rw [List.any_eq_false]
   intro y hy
   obtain ⟨z, t, hkey⟩ := hk y (Array.mem_toList_iff.mp hy)
   simp [DictEntry.refKey, hkey]
  have a' : ¬ es.toList.any (·.refKey) = true := by rw [a]; exact Bool.false_ne_true
  rw [if_neg a']
  exact congrArg some e
theorem ObjM.look {h : Heap} {x dx C : Addr} {mA : Str → Option Value} (I : ObjM h x dx C mA) : ∃ od, PySem.W.InstAt h x (PySem.W.instObj C dx) C (some od) ∧ ∀ name, PySem.W.lookIn name od = some (mA name) :=
 let ⟨od, ho, hl⟩ := lookIn_ns I.ns
 ⟨od, ⟨I.obj, rfl, rfl, ho⟩, hl⟩
section
variable {prog : Program} {w : World} {A : Around} {E : Value → Shared → Prop} {s : Shared} {K : PySem.W.Frag} {x dx C f : Addr} {mA : Str → Option Value} {name : Str} {v : Value}
theorem get_map {expr : Bool} {Q : Value → Shared → Prop} (X : K.In s.heap) (I : ObjM s.heap x dx C mA) (hg : PySem.W.plainGet K C name = true) (hh : PySem.W.hasDictIn K C = true)
  (ha : PySem.W.findIn K (.ref C) name = some none) (hv : mA name = some v) (hv' : PySem.W.handedIn v = true) (h : Q v { s with toks := s.toks + 1 }) :
  wpAny (model prog w) A (getAttr (.ref x) name expr) Q E s := by
 obtain ⟨od, J, hl⟩ := I.look
 exact PySem.W.get_value X J (PySem.W.plainGet_of hg).1 (PySem.W.findObj_own hh ha rfl (by rw [hl, hv])) hv' h
theorem get_meth {pl : Sem Bool} {Q : Value × List Value → Shared → Prop} (X : K.In s.heap) (I : ObjM s.heap x dx C mA) (hg : PySem.W.plainGet K C name = true)
  (hf : PySem.W.findIn K (.ref C) name = some (some (.ref f))) (ht : PySem.W.isFn K (.ref f) = true) (hv : mA name = none) (h : Q (.ref f, [.ref x]) s) :
  wpAny (model prog w) A (getMethod (.ref x) name pl) Q E s := by
 obtain ⟨od, J, hl⟩ := I.look
 exact PySem.W.method_fn X J (PySem.W.plainGet_of hg).1 (PySem.W.plainGet_of hg).2 hf (beq_iff_eq.mp ht) (by show (PySem.W.lookIn name od).map (·.isSome) = some false; rw [hl, hv]; rfl) h
theorem set_map {ns : List Str} {Q : Unit → Shared → Prop} (X : K.In s.heap) (I : ObjM s.heap x dx C mA)
  (hs : PySem.W.findIn K (.ref C) "__setattr__" = some (some (.builtin "object.__setattr__"))) (hp : PySem.W.plainOver K C = true) (ht : PySem.W.takerIn K C name = some none) (hh : PySem.W.hasDictIn K C = true)
  (hw : PySem.Within mA ns) (hsz : ns.length ≤ sizeLine)
  (h : ∀ h', ObjM h' x dx C (fun y => if y = name then some v else mA y) → Heap.SameBut dx s.heap h' → Q () { s with heap := h', toks := s.toks + 2 }) :
  wpAny (model prog w) A (setAttr (.ref x) name v) Q E s := by
 obtain ⟨od, J, hl⟩ := I.look
 refine PySem.W.set_plain X J hs (PySem.W.osa_open (s := { s with toks := s.toks + 1 }) (r := none) X J hp ht fun b => ?_)
 obtain ⟨cd, hc, hd'⟩ := PySem.W.any_some hh
 have hx : s.heap.get? x = some ⟨.ref C, some dx, .plain, #[]⟩ := I.obj
 refine wpAny_bind (wpAny_pure (wpAny_bind (wpAny_bind (wpAny_loadPart hx (wpAny_bind (PySem.W.Looks.here (s := { s with toks := s.toks + 1 }) (PySem.W.looks_clsIn X hc) ?_))))))
 rw [hd']
 refine wpAny_pure (a := some dx) (wpAny_bind (wpAny_pure (wpAny_bind ?_)))
 refine wpAny_nsSet1 (s := { s with toks := s.toks + 1 }) I.ns fun h' hn2 hs2 => ?_
 obtain ⟨oD, esD, epD, hoD, hdD, hcD⟩ := hn2.count (PySem.Within.cons name v hw)
 refine wpAny_bind (wpAny_lookBehind hoD (by rw [hdD]; exact pastItsLine_dict (Nat.le_trans hcD (by rw [List.length_cons]; omega))) ?_)
 exact wpAny_pure (h _ ⟨(hs2.2 _ (Ne.symm I.ne)).trans I.obj, hn2, I.ne⟩ hs2)
theorem make_map {R : Result → Shared → Prop} {vs : List Value} {kw : List (Str × Value)} (X : K.In s.heap) (hm : PySem.W.makesIn K C = true)
  (hi : PySem.W.findIn K (.ref C) "__init__" = some (some (.ref f))) (hf : PySem.W.typeIn K (.ref f) = some (.type "function"))
  (h : codeAny (model prog w) (A.under (.builtin "type.__call__" ⟨.ref C :: vs, kw⟩)) (.call (.ref f) ⟨.ref (s.heap.objs.size + 1) :: vs, kw⟩) (PySem.W.InitBack (s.heap.objs.size + 1) R)
   { s with heap := (s.heap.push PySem.W.emptyDict).push (PySem.W.instObj C s.heap.objs.size) }) :
  codeAny (model prog w) A (.call (.ref C) ⟨vs, kw⟩) R s := by
 obtain ⟨hh, g, d, t, os⟩ := s
 exact PySem.W.make_core (PySem.W.makes_of X hm) (PySem.W.looks_findIn X hi) (fun self => PySem.W.bind_fn X self hf) (.inl rfl) h
end
noncomputable def putF (f : Str) (v : V) : List (Str × V) → List (Str × V)
 | [] => [(f, v)]
 | (g, x) :: r => if g = f then (g, v) :: r else (g, x) :: putF f v r
theorem lookup_putF (f g : Str) (v : V) : ∀ fs : List (Str × V), (putF f v fs).lookup g = if g = f then some v else fs.lookup g
 | [] => by
  show List.lookup g [(f, v)] = _
  by_cases h : g = f
  ·have hb : (g == f) = true := beq_iff_eq.mpr h
   simp only [List.lookup, hb, if_pos h]
  ·have hb : (g == f) = false := beq_eq_false_iff_ne.mpr h
   simp only [List.lookup, hb, if_neg h]
 | (k, x) :: r => by
  have ih := lookup_putF f g v r
  rw [show putF f v ((k, x) :: r) = (if k = f then (k, v) :: r else (k, x) :: putF f v r) from rfl]
  by_cases hk : k = f
  ·rw [if_pos hk]
   by_cases h : g = k
   ·have hb : (g == k) = true := beq_iff_eq.mpr h
    simp only [List.lookup, hb, if_pos (h.trans hk)]
   ·have hb : (g == k) = false := beq_eq_false_iff_ne.mpr h
    simp only [List.lookup, hb, if_neg (fun e : g = f => h (e.trans hk.symm))]
  ·rw [if_neg hk]
   by_cases h : g = k
   ·have hb : (g == k) = true := beq_iff_eq.mpr h
    simp only [List.lookup, hb, if_neg (fun e : g = f => hk (h.symm.trans e))]
   ·have hb : (g == k) = false := beq_eq_false_iff_ne.mpr h
    simp only [List.lookup, hb]
    exact ih
theorem keys_putF (f : Str) (v : V) : ∀ fs : List (Str × V), f ∈ (putF f v fs).map (·.1) ∧ ∀ g, g ∈ fs.map (·.1) → g ∈ (putF f v fs).map (·.1)
 | [] => ⟨by simp [putF], fun g h => by simp at h⟩
 | (k, x) :: r => by
  obtain ⟨i1, i2⟩ := keys_putF f v r
  rw [show putF f v ((k, x) :: r) = (if k = f then (k, v) :: r else (k, x) :: putF f v r) from rfl]
  by_cases hk : k = f
  ·rw [if_pos hk]
   subst hk
   exact ⟨by simp, fun g h => by simpa using h⟩
  ·rw [if_neg hk]
   refine ⟨?_, fun g h => ?_⟩
   ·rw [List.map_cons]
    exact List.mem_cons_of_mem _ i1
   ·rw [List.map_cons] at h ⊢
    rcases List.mem_cons.mp h with e | e
    ·exact List.mem_cons.mpr (.inl e)
    ·exact List.mem_cons_of_mem _ (i2 g e)
theorem length_putF (f : Str) (v : V) : ∀ fs : List (Str × V), (putF f v fs).length ≤ fs.length + 1
 | [] => by simp [putF]
 | (k, x) :: r => by
  have ih := length_putF f v r
  rw [show putF f v ((k, x) :: r) = (if k = f then (k, v) :: r else (k, x) :: putF f v r) from rfl]
  by_cases hk : k = f
  ·rw [if_pos hk, List.length_cons, List.length_cons]; omega
  ·rw [if_neg hk, List.length_cons, List.length_cons]; omega
theorem RelO.some_of {v : V} {o : Option Value} (r : RelO (some v) o) : ∃ u, o = some u ∧ RelV v u := by
 cases o with
 | none => exact (show False from r).elim
 | some u => exact ⟨u, rfl, r⟩
theorem RelO.none_of {o : Option Value} (r : RelO none o) : o = none := by
 cases o with
 | none => rfl
 | some u => exact (show False from r).elim
theorem handed_of {v : V} {u : Value} (r : RelV v u) : PySem.W.handedIn u = true := by
 cases v with
 | non => cases (show u = Value.none from r); rfl
 | bl b => cases (show u = Value.bool b from r); rfl
 | int i => obtain ⟨t, e⟩ := (show ∃ t, u = Value.int i t from r); cases e; rfl
 | str x => obtain ⟨t, e⟩ := (show ∃ t, u = Value.str x t from r); cases e; rfl
 | byt b => obtain ⟨t, e⟩ := (show ∃ t, u = Value.bytes b t from r); cases e; rfl
 | flt b => obtain ⟨t, e⟩ := (show ∃ t, u = Value.float b t from r); cases e; rfl
 | ref a => cases (show u = Value.ref a from r); rfl
 | ty n => cases (show u = Value.type n from r); rfl
section
variable {P : Program} {w : World} {H H' : Hp} {h h' : Heap} {a C dx : Addr} {fs fs' : List (Str × V)}
theorem ins_get (hok : HOk P w H h) (e : H a = some (.ins C dx fs)) : ∃ mA, ObjM h a dx C mA ∧ (∀ f, RelO (fs.lookup f) (mA f)) ∧ PySem.Within mA (fs.map (·.1)) ∧ fs.length ≤ 1000 ∧ H dx = some (.own a) := by
 obtain ⟨d, z, ne, ob, mA, n, r, q⟩ := (show ObjOk P w H h a (.ins C dx fs) from hok a _ e)
 exact ⟨mA, ⟨ob, n, ne⟩, r, q, z, d⟩
end
structure Cls (K : PySem.W.Frag) (C : Addr) : Prop where
 pg : PySem.W.plainGet K C Str.empty = true
 hd : PySem.W.hasDictIn K C = true
 po : PySem.W.plainOver K C = true
 sa : PySem.W.findIn K (.ref C) "__setattr__" = some (some (.builtin "object.__setattr__"))
theorem Cls.get {K : PySem.W.Frag} {C : Addr} (c : Cls K C) (f : Str) : PySem.W.plainGet K C f = true := c.pg
noncomputable def NoAttr (K : PySem.W.Frag) (C : Addr) (f : Str) : Prop := PySem.W.findIn K (.ref C) f = some none
theorem NoAttr.taker {K : PySem.W.Frag} {C : Addr} {f : Str} (n : NoAttr K C f) : PySem.W.takerIn K C f = some none := by
 unfold PySem.W.takerIn
 rw [show PySem.W.findIn K (.ref C) f = some none from n]
 rfl
structure Con (K : PySem.W.Frag) (C : Addr) (f : Str) (v : V) (u : Value) : Prop where
 at_ : PySem.W.findIn K (.ref C) f = some (some u)
 rel : RelV v u
 get : PySem.W.specialIn K u "__get__" = some none
 cp : PySem.W.copiedNames.contains f = false
structure Meth (K : PySem.W.Frag) (C : Addr) (m : Str) (f : Addr) : Prop where
 at_ : PySem.W.findIn K (.ref C) m = some (some (.ref f))
 fn : PySem.W.isFn K (.ref f) = true
 kp : PySem.W.keepIn K (.ref f) = true
section
variable {X : Cx} {pins : List (Addr × Obj)} {σ : St} {H : Hp} {s : Shared} {a C dx : Addr} {fs : List (Str × V)} {f : Str} {v : V} {A : Around} {E : Value → Shared → Prop}
theorem getattr_ok {b : Bool} {Q : Value → Shared → Prop} (I : Inv X pins σ H s) (e : H a = some (.ins C dx fs)) (c : Cls X.K C) (n : NoAttr X.K C f) (l : fs.lookup f = some v)
  (h : ∀ u s', Inv X pins σ H s' → RelV v u → Q u s') : wpAny (model X.prog X.w) A (getAttr (.ref a) f b) Q E s := by
 obtain ⟨mA, O, r, _, _, _⟩ := ins_get I.hok e
 obtain ⟨u, hu, ru⟩ := RelO.some_of (v := v) (o := mA f) (by rw [← l]; exact r f)
 exact get_map I.kIn O (c.get f) c.hd n hu (handed_of ru) (h u _ (I.tok _) ru)
theorem getmeth_ok {m : Str} {g : Addr} {pl : Sem Bool} {Q : Value × List Value → Shared → Prop} (I : Inv X pins σ H s) (e : H a = some (.ins C dx fs)) (c : Cls X.K C) (k : Meth X.K C m g) (l : fs.lookup m = none)
  (h : Q (.ref g, [.ref a]) s) : wpAny (model X.prog X.w) A (getMethod (.ref a) m pl) Q E s := by
 obtain ⟨mA, O, r, _, _, _⟩ := ins_get I.hok e
 have hn : mA m = none := RelO.none_of (by rw [← l]; exact r m)
 exact get_meth I.kIn O (c.get m) k.at_ k.fn hn h
theorem setattr_ok {y : V} {u : Value} {Q : Unit → Shared → Prop} (I : Inv X pins σ H s) (e : H a = some (.ins C dx fs)) (c : Cls X.K C) (n : NoAttr X.K C f) (hl : fs.length < 1000) (ry : RelV y u)
  (h : ∀ s', Inv X pins σ (upd H a (.ins C dx (putF f y fs))) s' → Q () s') : wpAny (model X.prog X.w) A (setAttr (.ref a) f u) Q E s := by
 obtain ⟨mA, O, r, wi, _, ho⟩ := ins_get I.hok e
 have hz : (fs.map (·.1)).length ≤ sizeLine := by rw [List.length_map, sizeLine_eq]; omega
 refine set_map I.kIn O c.sa c.po n.taker c.hd wi hz fun h' O' sb => h _ ?_
 have hd : ∃ o, h'.get? dx = some o := let ⟨o, _, _, e', _⟩ := O'.ns; ⟨o, e'⟩
 refine I.write (x := a) (e := dx) (by rw [e]; exact True.intro) (.inr ho) (fun b q hb z => (sb.2 b hb).trans z) hd ?_
 refine ⟨by rw [upd_ne O.ne]; exact ho, ?_, O.ne, O'.obj, _, O'.ns, fun g => ?_, fun g hg => ?_⟩
 ·have := length_putF f y fs; omega
 ·show RelO ((putF f y fs).lookup g) (if g = f then some u else mA g)
  rw [lookup_putF]
  by_cases q : g = f
  ·rw [if_pos q, if_pos q]; exact ry
  ·rw [if_neg q, if_neg q]; exact r g
 ·by_cases q : g = f
  ·rw [q]; exact (keys_putF f y fs).1
  ·refine (keys_putF f y fs).2 g (wi g fun z => hg ?_)
   show (if g = f then some u else mA g) = none
   rw [if_neg q]; exact z
theorem Inv.made (I : Inv X pins σ H s) : Inv X pins σ (upd (upd H s.heap.objs.size (.own (s.heap.objs.size + 1))) (s.heap.objs.size + 1) (.ins C s.heap.objs.size []))
  { s with heap := (s.heap.push PySem.W.emptyDict).push (PySem.W.instObj C s.heap.objs.size) } := by
 have e1 : (s.heap.push PySem.W.emptyDict).get? s.heap.objs.size = some PySem.W.emptyDict := Heap.get?_push_size s.heap rfl
 have e2 : ((s.heap.push PySem.W.emptyDict).push (PySem.W.instObj C s.heap.objs.size)).get? (s.heap.objs.size + 1) = some (PySem.W.instObj C s.heap.objs.size) := by
  have := Heap.get?_push_size (s.heap.push PySem.W.emptyDict) (o := PySem.W.instObj C s.heap.objs.size) rfl
  rwa [Heap.size_push] at this
 have e3 : (s.heap.push PySem.W.emptyDict).Ns s.heap.objs.size (fun _ => none) := ⟨PySem.W.emptyDict, #[], _, e1, rfl, (fun e he => absurd he (by simp)), fun _ => rfl⟩
 have I1 := I.laid (a := s.heap.objs.size) (o := .own (s.heap.objs.size + 1)) (h' := s.heap.push PySem.W.emptyDict) (t' := s.toks) (fun b u q => Heap.get?_push_of_some _ q) (Nat.le_refl _) ⟨_, e1⟩
 refine I1.laid (a := s.heap.objs.size + 1) (o := .ins C s.heap.objs.size []) (t' := s.toks) (fun b u q => Heap.get?_push_of_some _ q) (Nat.le_of_eq (Heap.size_push _ _)) ?_
 have ne : s.heap.objs.size ≠ s.heap.objs.size + 1 := Nat.ne_of_lt (Nat.lt_succ_self _)
 refine ⟨by rw [upd_ne ne, upd_same], Nat.zero_le _, ne, e2, fun _ => none, (Heap.Ns1.of_empty e3).at fun o q => Heap.get?_push_of_some _ q, fun _ => True.intro, fun y hy => absurd rfl hy⟩
theorem attr_of {prog : Program} {w : World} {env : Env} {e : Expr} {f : Str} {pos : Pos} {s : Shared} {Q : Value → Shared → Prop} (hb : attributeBase e f env (eval e env) = eval e env)
  (h : wpAny (model prog w) A (eval e env) (fun o s₁ => wpAny (model prog w) A (getAttr o f true) Q E s₁) E s) : wpAny (model prog w) A (eval (.Attribute e f pos) env) Q E s :=
 Attribute_any_ h (by rw [arm_eval_Attribute, hb])
end
noncomputable def tFld (K : PySem.W.Frag) (ta : TE) (f : Str) : TE := fun σ H Q => ta σ H fun x H1 => ∃ a C dx fs v, x = .ref a ∧ H1 a = some (.ins C dx fs) ∧ Cls K C ∧ NoAttr K C f ∧ fs.lookup f = some v ∧ Q v H1
noncomputable def sFld (K : PySem.W.Frag) (ta tv : TE) (f : Str) : TS := fun D σ H => tv σ H fun y H1 => ta σ H1 fun x H2 => ∃ a C dx fs, x = .ref a ∧ H2 a = some (.ins C dx fs) ∧ Cls K C ∧ NoAttr K C f ∧ fs.length < 1000 ∧
 D.nx σ (upd H2 a (.ins C dx (putF f y fs)))
section
variable {X : Cx} {o e value : Expr} {f : Str} {pos pos' tpos : Pos} {ta tv : TE}
theorem pe_fld (he : PE X e ta) (hb : attributeBase e f X.env (eval e X.env) = eval e X.env) : PE X (.Attribute e f pos) (tFld X.K ta f) := by
 intro pins s σ H Q I h
 refine attr_of hb (thn (he pins s σ H _ I h) fun u s1 ⟨x, H1, I1, rx, a, C, dx, fs, v, ex, ea, c, n, l, q⟩ => ?_)
 subst ex
 obtain rfl : u = Value.ref a := rx
 exact getattr_ok I1 ea c n l fun u' s2 I2 ru => ⟨v, H1, I2, ru, q⟩
theorem ps_fld (ha : PE X o ta) (hv : PE X value tv) (hs : swapsWith value (some (.Attribute o f pos')) pos.line X.env = pure false) : PS X (.Assign [.Attribute o f pos'] value pos) (sFld X.K ta tv f) := by
 intro pins s σ H D I h
 refine plainObj_wpAny_Assign_Attribute (thn (hv pins s σ H _ I h) fun u s1 ⟨y, H1, I1, ry, q⟩ => thn (ha pins s1 σ H1 _ I1 q) fun ov s2 ⟨x, H2, I2, rx, a, C, dx, fs, ex, ea, c, n, l, q2⟩ => ?_) hs
 subst ex
 obtain rfl : ov = Value.ref a := rx
 exact setattr_ok I2 ea c n l ry fun s3 I3 => ⟨σ, _, I3, q2⟩
theorem methcall_of {pl : Sem Bool} {m : Str} {apos : Pos} {args : List Expr} {pins : List (Addr × Obj)} {s : Shared} {σ : St} {H : Hp} {Q : Value → Shared → Prop} {te : TE} (he : PE X e te) (I : Inv X pins σ H s)
  (h : te σ H fun x H1 => ∃ a C dx fs g, x = .ref a ∧ H1 a = some (.ins C dx fs) ∧ Cls X.K C ∧ Meth X.K C m g ∧ fs.lookup m = none ∧
   ∀ s1, Inv X pins σ H1 s1 → wpAny (model X.prog X.w) X.A (callWith pos (.ref g) [.ref a] (backTo pos (starEach args X.env)) (backToKw pos (keywordEach [] X.env))) Q X.xe s1)
  (ht : eval (.Call (.Attribute e m apos) args [] pos) X.env = (do
   let ov ← eval e X.env
   standAt apos.atName
   let (f, first) ← holding [ov] (getMethod ov m pl)
   callWith pos f first (backTo pos (starEach args X.env)) (backToKw pos (keywordEach [] X.env)))) :
  wpAny (model X.prog X.w) X.A (eval (.Call (.Attribute e m apos) args [] pos) X.env) Q X.xe s := by
 refine PySem.W.methodCall_KW (pl := pl) (thn (he pins s σ H _ I h) fun u s1 ⟨x, H1, I1, rx, a, C, dx, fs, g, ex, ea, c, k, l, q⟩ => ?_) ht
 subst ex
 obtain rfl : u = Value.ref a := rx
 exact getmeth_ok I1 ea c k l (q s1 I1)
end
section
variable {X : Cx} {pins : List (Addr × Obj)} {σ : St} {H : Hp} {s : Shared} {A : Around} {E : Value → Shared → Prop} {Q : Value → Shared → Prop} {c : Value} {b : Bool}
inductive TyOf (K : PySem.W.Frag) (H : Hp) : V → Value → Prop where
 | non : TyOf K H .non (.type "NoneType")
 | bl (x : Bool) : TyOf K H (.bl x) (.type "bool")
 | int (i : Int) : TyOf K H (.int i) (.type "int")
 | str (x : Str) : TyOf K H (.str x) (.type "str")
 | flt (x : UInt64) : TyOf K H (.flt x) (.type "float")
 | lst {a : Addr} {xs : List V} (e : H a = some (.lst xs)) : TyOf K H (.ref a) (.type "list")
 | frz {a : Addr} {o : Obj} {xs : List V} (e : H a = some (.frz o (.lst xs))) : TyOf K H (.ref a) (.type "list")
 | tup {a : Addr} {xs : List V} (e : H a = some (.tup xs)) : TyOf K H (.ref a) (.type "tuple")
 | dK {a : Addr} {kvs : List (Key × V)} (e : H a = some (.dK kvs)) : TyOf K H (.ref a) (.type "dict")
 | dT {a : Addr} {kvs : List (List Key × V)} (e : H a = some (.dT kvs)) : TyOf K H (.ref a) (.type "dict")
 | ins {a C dx : Addr} {fs : List (Str × V)} (e : H a = some (.ins C dx fs)) (cl : Cls K C) (ha : PySem.W.findIn K (.ref C) "__class__" = some (some (.builtin "object.__class__")))
   (hn : PySem.W.specialIn K (.builtin "object.__class__") "__get__" = some (some (.builtin "getset_descriptor.__get__"))) (htk : PySem.W.takesIn K (.builtin "object.__class__") = some true)
   (hm : PySem.W.mroIn K C (.type "object") = some true) : TyOf K H (.ref a) (.ref C)
theorem isinst_ok {x : V} {u t : Value} (I : Inv X pins σ H s) (rx : RelV x u) (ty : TyOf X.K H x t) (e : PySem.W.kitOne X.K t c = some b) (h : ∀ tk, Q (.bool b) { s with toks := tk }) :
  wpAny (model X.prog X.w) A (call (.builtin "isinstance") [u, c]) Q E s := by
 cases ty with
 | non => cases (show u = Value.none from rx); exact PySem.W.kia_one PySem.W.kitx_none I.kIn True.intro e (fun z => nomatch z) h
 | bl y => cases (show u = Value.bool y from rx); exact PySem.W.kia_one PySem.W.kitx_bool I.kIn True.intro e (fun z => nomatch z) h
 | int i => obtain ⟨t, q⟩ := (show ∃ t, u = Value.int i t from rx); cases q; exact PySem.W.kia_one PySem.W.kitx_int I.kIn True.intro e (fun z => nomatch z) h
 | str y => obtain ⟨t, q⟩ := (show ∃ t, u = Value.str y t from rx); cases q; exact PySem.W.kia_one PySem.W.kitx_str I.kIn True.intro e (fun z => nomatch z) h
 | flt y => obtain ⟨t, q⟩ := (show ∃ t, u = Value.float y t from rx); cases q; exact PySem.W.kia_one PySem.W.kitx_float I.kIn True.intro e (fun z => nomatch z) h
 | @lst a xs ea =>
  cases (show u = Value.ref a from rx)
  obtain ⟨_, _, n, _, h1⟩ := (show ObjOk X.prog X.w H s.heap a (.lst xs) from I.hok a _ ea)
  exact PySem.W.kia_one PySem.W.kitx_list I.kIn ⟨_, h1, rfl⟩ e (fun z => nomatch z) h
 | @frz a ob xs ea =>
  cases (show u = Value.ref a from rx)
  obtain ⟨_, _, _, n, _, h1⟩ := (show ObjOk X.prog X.w H s.heap a (.frz ob (.lst xs)) from I.hok a _ ea)
  exact PySem.W.kia_one PySem.W.kitx_list I.kIn ⟨_, h1, rfl⟩ e (fun z => nomatch z) h
 | @tup a xs ea =>
  cases (show u = Value.ref a from rx)
  obtain ⟨_, _, _, p⟩ := (show ObjOk X.prog X.w H s.heap a (.tup xs) from I.hok a _ ea)
  obtain ⟨o, h1, h2, _⟩ := p
  exact PySem.W.kia_one PySem.W.kitx_tuple I.kIn ⟨o, h1, h2⟩ e (fun z => nomatch z) h
 | @dK a kvs ea =>
  cases (show u = Value.ref a from rx)
  obtain ⟨_, _, vs, _, p⟩ := (show ObjOk X.prog X.w H s.heap a (.dK kvs) from I.hok a _ ea)
  obtain ⟨o, es, ep, h1, h2, _⟩ := p
  exact PySem.W.kia_one PySem.W.kitx_dict I.kIn ⟨o, h1, h2.1⟩ e (fun z => nomatch z) h
 | @dT a kvs ea =>
  cases (show u = Value.ref a from rx)
  obtain ⟨_, _, xs, _, o, es, ep, h1, h2, _⟩ := (show ObjOk X.prog X.w H s.heap a (.dT kvs) from I.hok a _ ea)
  exact PySem.W.kia_one PySem.W.kitx_dict I.kIn ⟨o, h1, h2.1⟩ e (fun z => nomatch z) h
 | @ins a C dx fs ea cl ha hn htk hm =>
  cases (show u = Value.ref a from rx)
  obtain ⟨mA, O, _⟩ := ins_get I.hok ea
  obtain ⟨od, J, _⟩ := O.look
  exact PySem.W.kia_one (PySem.W.kitx_own (cl.get _) cl.hd ha hn htk hm) I.kIn J e (fun z => nomatch z) h
end
end L2
namespace L2
open PySem PySem.Spec PyProof.Rows
structure Room (k : Nat) (A : Around) : Prop where
 hd : A.handled = none
 dp : A.depth + 3 * k + 5 < recursionLimit
 un : A.units + 16 * k + 200 < cLine
theorem Room.mono {j k : Nat} {A : Around} (r : Room k A) (h : j ≤ k) : Room j A := ⟨r.hd, by have := r.dp; omega, by have := r.un; omega⟩
theorem Room.deeper {k : Nat} {A : Around} (r : Room (k + 1) A) (env : Env) : Room k (A.deeper env) :=
 ⟨r.hd, by have := r.dp; show A.depth + 1 + 3 * k + 5 < _; omega, by have := r.un; show A.units + 3 + 16 * k + 200 < _; omega⟩
theorem Room.in1 {k : Nat} {A : Around} (r : Room (k + 1) A) : Room k A.in1 :=
 ⟨r.hd, by have := r.dp; show A.depth + 3 * k + 5 < _; omega, by have := r.un; show A.units + 1 + 16 * k + 200 < _; omega⟩
theorem make_depth {A : Around} {C : Addr} {us : List Value} {kw : List (Str × Value)} : (A.under (.builtin "type.__call__" ⟨.ref C :: us, kw⟩)).depth = A.depth + 1 := by
 first | rfl | simp [Around.under, Code.weight, Code.isCreation, Code.isGuard, Code.isCaller, Code.frames, Code.isFrame, guardIds]
theorem make_units {A : Around} {C : Addr} {us : List Value} {kw : List (Str × Value)} : (A.under (.builtin "type.__call__" ⟨.ref C :: us, kw⟩)).units = A.units + 1 := by
 first | rfl | simp [Around.under, Code.cUnits, Code.frames, Code.isFrame]
theorem Room.make {k : Nat} {A : Around} (r : Room (k + 1) A) (C : Addr) (us : List Value) (kw : List (Str × Value)) : Room k (A.under (.builtin "type.__call__" ⟨.ref C :: us, kw⟩)) :=
 ⟨r.hd, by have := r.dp; rw [make_depth]; omega, by have := r.un; rw [make_units]; omega⟩
theorem Room.depth {k : Nat} {A : Around} (r : Room k A) : A.depth < recursionLimit := by have := r.dp; omega
theorem Room.units {k : Nat} {A : Around} (r : Room k A) : A.units + 64 < cLine := by have := r.un; omega
noncomputable def tNil : TA := fun _ H Q => Q [] H
noncomputable def tCons (ta : TE) (tr : TA) : TA := fun σ H Q => ta σ H fun x H1 => tr σ H1 fun xs H2 => Q (x :: xs) H2
section
variable {X : Cx} {e : Expr} {es : List Expr} {te : TE} {t : TA} {pos : Pos}
theorem pa_nil : PA X [] tNil := fun _ _ _ _ H Q I h => Calls.spliced_nil ⟨[], H, I, .nil, h⟩
theorem pa_cons (ha : PE X e te) (hr : PA X es t) (hs : starEach (e :: es) X.env = (false, eval e X.env) :: starEach es X.env := by rfl) : PA X (e :: es) (tCons te t) := by
 intro pos pins s σ H Q I h
 rw [hs]
 show wpAny _ _ (spliced ((false, eval e X.env) :: backTo pos (starEach es X.env))) _ _ s
 refine Calls.spliced_cons (thn (ha pins s σ H _ I h) fun u s1 ⟨x, H1, I1, r1, q1⟩ => ?_)
 exact thn (hr pos pins s1 σ H1 _ I1 q1) fun us s2 ⟨xs, H2, I2, r2, q2⟩ => ⟨x :: xs, H2, I2, .cons r1 r2, q2⟩
noncomputable def tTup (t : TA) : TE := fun σ H Q => t σ H fun xs H1 => xs.length ≤ sizeLine ∧ ∀ p, H1 p = none → Q (.ref p) (upd H1 p (.tup xs))
noncomputable def tLst (t : TA) : TE := fun σ H Q => t σ H fun xs H1 => xs.length ≤ sizeLine ∧ ∀ p, H1 p = none → Q (.ref p) (upd H1 p (.lst xs))
theorem pe_tup {x1} (h : PA X es t) : PE X (.Tuple es x1 pos) (tTup t) := by
 intro pins s σ H Q I hq
 refine wpAny_Tuple_spliced (thn (h pos pins s σ H _ I hq) fun us s1 ⟨xs, H1, I1, r, z, q⟩ => ⟨by rw [← r.length]; exact z, ?_⟩)
 have hf : H1 s1.heap.objs.size = none := I1.hok.fresh (Nat.le_refl _)
 refine ⟨.ref s1.heap.objs.size, upd H1 s1.heap.objs.size (.tup xs), I1.laid (t' := s1.toks) (fun b u e => Heap.get?_push_of_some _ e) (Nat.le_refl _) ?_, rfl, q _ hf⟩
 exact ⟨z, us, r, ⟨_, Heap.get?_push_size _ rfl, rfl, _, rfl⟩⟩
theorem pe_lst (h : PA X es t) : PE X (.List es pos) (tLst t) := by
 intro pins s σ H Q I hq
 refine wpAny_List_spliced (thn (h pos pins s σ H _ I hq) fun us s1 ⟨xs, H1, I1, r, z, q⟩ => ⟨by rw [← r.length]; exact z, ?_⟩)
 have hf : H1 s1.heap.objs.size = none := I1.hok.fresh (Nat.le_refl _)
 refine ⟨.ref s1.heap.objs.size, upd H1 s1.heap.objs.size (.lst xs), I1.laid (t' := s1.toks) (fun b u e => Heap.get?_push_of_some _ e) (Nat.le_refl _) ?_, rfl, q _ hf⟩
 exact ⟨z, us, 0, r, Heap.get?_push_size _ rfl⟩
end
noncomputable abbrev Sp := List V → Hp → VK → XK → Prop
noncomputable abbrev CXT := List Env → Hp → Shared → XK → Value → Shared → Prop
structure Env0 (P : Program) (w : World) (K : PySem.W.Frag) (mg : Str → Option Value) (base : Heap) (A : Around) (outer : List Env) (s : Shared) (H : Hp) : Prop where
 frames : A.frames = some outer
 mod : Mod K mg base
 bs : ∀ b o, base.get? b = some o → s.heap.get? b = some o ∧ H b = none
 bsz : base.objs.size ≤ s.heap.objs.size
 funs : s.heap.FunFrames base outer
 frf : ∀ b ∈ frs outer, H b = none
 hok : HOk P w H s.heap
 bare : AllBare s.gens
noncomputable def CE (outer : List Env) (P : Program) (w : World) (H : Hp) (s : Shared) (Q : VK) (u : Value) (s' : Shared) : Prop :=
 ∃ v H', s'.os = s.os ∧ AllBare s'.gens ∧ Un (frs outer) [] H H' s.heap s'.heap ∧ HOk P w H' s'.heap ∧ RelV v u ∧ Q v H'
noncomputable def CR (CX : CXT) (outer : List Env) (P : Program) (w : World) (H : Hp) (s : Shared) (Q : VK) (E : XK) (r : Result) (s' : Shared) : Prop :=
 match r with
 | .ok (.ret u) => CE outer P w H s Q u s'
 | .ok _ => False
 | .error e => CX outer H s E e s'
structure FnOk (P : Program) (w : World) (K : PySem.W.Frag) (mg : Str → Option Value) (base : Heap) (CX : CXT) (k : Nat) (f : Addr) (fd : FuncData) (ps : List Str) (sp : Sp) : Prop where
 len : ∀ vs H Q E, sp vs H Q E → vs.length = ps.length
 run : ∀ (A : Around) (outer : List Env) (s : Shared) (H : Hp) (args : Args) (us : List Value) (vs : List V) (Q : VK) (E : XK), Room k A → Env0 P w K mg base A outer s H → BindsTo s fd args (ps.zip us) → Vals vs us → sp vs H Q E →
  codeAny (model P w) A (.call (.ref f) args) (CR CX outer P w H s Q E) s
theorem FnOk.mono {P : Program} {w : World} {K : PySem.W.Frag} {mg : Str → Option Value} {base : Heap} {CX : CXT} {j k : Nat} {f : Addr} {fd : FuncData} {ps : List Str} {sp : Sp} (F : FnOk P w K mg base CX j f fd ps sp) (h : j ≤ k) :
  FnOk P w K mg base CX k f fd ps sp := ⟨F.len, fun A outer s H args us vs Q E hr => F.run A outer s H args us vs Q E (hr.mono h)⟩
theorem FnOk.imp {P : Program} {w : World} {K : PySem.W.Frag} {mg : Str → Option Value} {base : Heap} {CX : CXT} {k : Nat} {f : Addr} {fd : FuncData} {ps : List Str} {sp sp' : Sp} (F : FnOk P w K mg base CX k f fd ps sp)
  (h : ∀ vs H Q E, sp' vs H Q E → sp vs H Q E) : FnOk P w K mg base CX k f fd ps sp' :=
 ⟨fun vs H Q E q => F.len vs H Q E (h _ _ _ _ q), fun A outer s H args us vs Q E hr he hb hv hs => F.run A outer s H args us vs Q E hr he hb hv (h _ _ _ _ hs)⟩
theorem Env0.make {P : Program} {w : World} {K : PySem.W.Frag} {mg : Str → Option Value} {base : Heap} {A : Around} {outer : List Env} {s : Shared} {H : Hp} (e : Env0 P w K mg base A outer s H) (C : Addr) (us : List Value) (kw : List (Str × Value)) :
  Env0 P w K mg base (A.under (.builtin "type.__call__" ⟨.ref C :: us, kw⟩)) outer s H := ⟨by first | exact e.frames | (simpa [Around.under, Code.envs, Code.isFrame, pushEnvs] using e.frames), e.mod, e.bs, e.bsz, e.funs, e.frf, e.hok, e.bare⟩
theorem Env0.in1 {P : Program} {w : World} {K : PySem.W.Frag} {mg : Str → Option Value} {base : Heap} {A : Around} {outer : List Env} {s : Shared} {H : Hp} (e : Env0 P w K mg base A outer s H) :
  Env0 P w K mg base A.in1 outer s H := ⟨e.frames, e.mod, e.bs, e.bsz, e.funs, e.frf, e.hok, e.bare⟩
section
variable {X : Cx} {pins : List (Addr × Obj)} {σ : St} {H : Hp} {s s' : Shared}
theorem Inv.env0 (I : Inv X pins σ H s) : Env0 X.prog X.w X.K X.mg X.base X.A X.stack s H :=
 ⟨I.ok.frames, I.ok.mod, I.bs, Nat.le_trans I.ok.bsz I.sz, I.stack, I.stkFree, I.hok, I.bare⟩
theorem Inv.after {Q : VK} {u : Value} (I : Inv X pins σ H s) (h : CE X.stack X.prog X.w H s Q u s') : EP X pins σ Q u s' := by
 obtain ⟨v, H', os, bare, un, hok, r, q⟩ := h
 obtain ⟨hh, g, d, t, os'⟩ := s'
 obtain rfl : os' = s.os := os
 exact ⟨v, H', I.call (h' := hh) (g' := g) (d' := d) (t' := t) (ch := []) un hok bare (fun b z => absurd z (by simp)), r, q⟩
end
noncomputable def tCall (sp : Sp) (dvs : List V) (E : XK) (t : TA) : TE := fun σ H Q => t σ H fun vs H1 => sp (vs ++ dvs) H1 Q E
noncomputable def tMeth (C : Addr) (m : Str) (sp : Sp) (dvs : List V) (E : XK) (ta : TE) (t : TA) : TE := fun σ H Q => ta σ H fun x H1 => ∃ a dx fs, x = .ref a ∧ H1 a = some (.ins C dx fs) ∧ fs.lookup m = none ∧
 t σ H1 fun vs H2 => sp (x :: (vs ++ dvs)) H2 Q E
noncomputable def tMake (C : Addr) (sp : Sp) (dvs : List V) (E : XK) (t : TA) : TE := fun σ H Q => t σ H fun vs H1 => ∀ x dx, H1 x = none → H1 dx = none → dx ≠ x →
 sp (.ref x :: (vs ++ dvs)) (upd (upd H1 dx (.own x)) x (.ins C dx [])) (fun v H2 => v = .non ∧ Q (.ref x) H2) E
noncomputable def Binds (K : PySem.W.Frag) (fd : FuncData) (ps : List Str) (ds : List Value) : Prop :=
 ∀ (s : Shared) (us : List Value), K.In s.heap → (us ++ ds).length = ps.length → BindsTo s fd ⟨us, []⟩ (ps.zip (us ++ ds))
theorem Binds.all {K : PySem.W.Frag} {fd : FuncData} {ps : List Str} (h : ∀ us : List Value, us.length = ps.length → bindArgs fd ⟨us, []⟩ = pure (ps.zip us)) : Binds K fd ps [] := fun s us _ hl => by
 rw [List.append_nil] at hl ⊢
 exact .of_eq (h us hl)
noncomputable def Passes (CX : CXT) (X : Cx) (E : XK) : Prop := ∀ (pins : List (Addr × Obj)) (σ : St) (H : Hp) (s : Shared) (e : Value) (s' : Shared), Inv X pins σ H s → CX X.stack H s E e s' → X.xe e s'
section
variable {X : Cx} {CX : CXT} {k : Nat} {f C : Addr} {fd : FuncData} {ps : List Str} {sp : Sp} {dvs : List V} {ds : List Value} {E : XK} {x m : Str} {p pos apos : Pos} {e o : Expr} {es : List Expr} {ta : TE} {t : TA}
theorem run_fn {pins : List (Addr × Obj)} {σ : St} {H : Hp} {s : Shared} {Q : VK} {us : List Value} {vs : List V} (F : FnOk X.prog X.w X.K X.mg X.base CX k f fd ps sp) (hr : Room k X.A) (hb : Binds X.K fd ps ds) (hd : Vals dvs ds) (hx : Passes CX X E)
  (I : Inv X pins σ H s) (r : Vals vs us) (h : sp (vs ++ dvs) H Q E) : wpAny (model X.prog X.w) X.A (call (.ref f) us) (EP X pins σ Q) X.xe s := by
 have r2 : Vals (vs ++ dvs) (us ++ ds) := r.append hd
 have hl : (us ++ ds).length = ps.length := by rw [← r2.length]; exact F.len _ _ _ _ h
 refine wpAny_call (codeAny_mono (F.run X.A X.stack s H ⟨us, []⟩ (us ++ ds) (vs ++ dvs) Q E hr I.env0 (hb s us I.kIn hl) r2 h) fun r s' hq => ?_)
 cases r with
 | error e => exact hx pins σ H s e s' I hq
 | ok fl =>
  cases fl with
  | ret u => exact I.after hq
  | next => exact False.elim hq
  | brk => exact False.elim hq
  | cont => exact False.elim hq
theorem pe_call (F : FnOk X.prog X.w X.K X.mg X.base CX k f fd ps sp) (hr : Room k X.A) (hg : Gl X x) (hm : X.mg x = some (.ref f)) (hk : PySem.W.keepIn X.K (.ref f) = true) (hb : Binds X.K fd ps ds) (hd : Vals dvs ds) (hx : Passes CX X E)
  (ha : PA X (e :: es) t) (hdb : (x == ("__debug__" : Str)) = false := by decide) (he : starEach (e :: es) X.env = (false, eval e X.env) :: starEach es X.env := by rfl) (hpl : (backTo pos (starEach es X.env)).any (·.1) = false := by rfl) :
  PE X (.Call (.Name x p) (e :: es) [] pos) (tCall sp dvs E t) := by
 intro pins s σ H Q I h
 refine wpAny_Call_Name_kw (ld_glob I hg hm ?_ hdb)
 refine PySem.W.callWith_K (h₀ := X.base) I.ok.mod.kin hk (thn (ha pos pins s σ H _ I h) fun us s1 ⟨vs, H1, I1, r, q⟩ => ⟨I1.kIn, ?_⟩) he hpl
 exact run_fn F hr hb hd hx I1 r q
theorem pe_meth {pl : Sem Bool} (he : PE X o ta) (c : Cls X.K C) (hm : Meth X.K C m f) (F : FnOk X.prog X.w X.K X.mg X.base CX k f fd ps sp) (hr : Room k X.A) (hb : Binds X.K fd ps ds) (hd : Vals dvs ds) (hx : Passes CX X E) (ha : PA X (e :: es) t)
  (hst : starEach (e :: es) X.env = (false, eval e X.env) :: starEach es X.env := by rfl) (hpl : (backTo pos (starEach es X.env)).any (·.1) = false := by rfl)
  (ht : eval (.Call (.Attribute o m apos) (e :: es) [] pos) X.env = (do
   let ov ← eval o X.env
   standAt apos.atName
   let (f, first) ← holding [ov] (getMethod ov m pl)
   callWith pos f first (backTo pos (starEach (e :: es) X.env)) (backToKw pos (keywordEach [] X.env))) := by rfl) :
  PE X (.Call (.Attribute o m apos) (e :: es) [] pos) (tMeth C m sp dvs E ta t) := by
 intro pins s σ H Q I h
 refine PySem.W.methodCall_KW (pl := pl) (thn (he pins s σ H _ I h) fun u s1 ⟨x, H1, I1, rx, a, dx, fs, ex, ea, l, q⟩ => ?_) ht
 subst ex
 obtain rfl : u = Value.ref a := rx
 refine getmeth_ok I1 ea c hm l ?_
 refine PySem.W.callWith_K (first := [.ref a]) (h₀ := X.base) I.ok.mod.kin hm.kp (thn (ha pos pins s1 σ H1 _ I1 q) fun us s2 ⟨vs, H2, I2, r, q2⟩ => ⟨I2.kIn, ?_⟩) hst hpl
 exact run_fn (us := .ref a :: us) (vs := .ref a :: vs) F hr hb hd hx I2 (.cons rfl r) q2
structure Mk (K : PySem.W.Frag) (C f : Addr) : Prop where
 makes : PySem.W.makesIn K C = true
 init : PySem.W.findIn K (.ref C) "__init__" = some (some (.ref f))
 fn : PySem.W.isFn K (.ref f) = true
 kp : PySem.W.keepIn K (.ref C) = true
theorem run_make {pins : List (Addr × Obj)} {σ : St} {H : Hp} {s : Shared} {Q : VK} {us : List Value} {vs : List V} (M : Mk X.K C f) (F : FnOk X.prog X.w X.K X.mg X.base CX k f fd ps sp) (hr : Room (k + 1) X.A) (hb : Binds X.K fd ps ds) (hd : Vals dvs ds)
  (hx : Passes CX X E) (I : Inv X pins σ H s) (r : Vals vs us)
  (h : ∀ x dx, H x = none → H dx = none → dx ≠ x → sp (.ref x :: (vs ++ dvs)) (upd (upd H dx (.own x)) x (.ins C dx [])) (fun v H2 => v = .non ∧ Q (.ref x) H2) E) :
  wpAny (model X.prog X.w) X.A (call (.ref C) us) (EP X pins σ Q) X.xe s := by
 have hq := h (s.heap.objs.size + 1) s.heap.objs.size (I.hok.fresh (Nat.le_succ _)) (I.hok.fresh (Nat.le_refl _)) (Nat.ne_of_lt (Nat.lt_succ_self _))
 have I2 := Inv.made (C := C) I
 have r2 : Vals (V.ref (s.heap.objs.size + 1) :: (vs ++ dvs)) (Value.ref (s.heap.objs.size + 1) :: (us ++ ds)) := .cons rfl (r.append hd)
 have hl : (Value.ref (s.heap.objs.size + 1) :: us ++ ds).length = ps.length := by
  have e := r2.length
  rw [F.len _ _ _ _ hq] at e
  exact e.symm
 refine wpAny_call (make_map (f := f) I.kIn M.makes M.init (beq_iff_eq.mp M.fn) (codeAny_mono (F.run _ X.stack _ _ ⟨Value.ref (s.heap.objs.size + 1) :: us, []⟩ (Value.ref (s.heap.objs.size + 1) :: (us ++ ds)) _ _ E (hr.make C us [])
  (I2.env0.make C us []) (hb _ (Value.ref (s.heap.objs.size + 1) :: us) I2.kIn hl) r2 hq) fun r s' hq' => ?_))
 cases r with
 | error e => exact hx pins σ _ _ e s' I2 hq'
 | ok fl =>
  cases fl with
  | ret u =>
   obtain ⟨v, H', I3, rv, ev, q3⟩ := I2.after hq'
   subst ev
   exact ⟨rv, ⟨V.ref (s.heap.objs.size + 1), H', I3, rfl, q3⟩⟩
  | next => exact False.elim hq'
  | brk => exact False.elim hq'
  | cont => exact False.elim hq'
theorem pe_make (M : Mk X.K C f) (F : FnOk X.prog X.w X.K X.mg X.base CX k f fd ps sp) (hr : Room (k + 1) X.A) (hg : Gl X x) (hm : X.mg x = some (.ref C)) (hb : Binds X.K fd ps ds) (hd : Vals dvs ds) (hx : Passes CX X E)
  (ha : PA X (e :: es) t) (hdb : (x == ("__debug__" : Str)) = false := by decide) (he : starEach (e :: es) X.env = (false, eval e X.env) :: starEach es X.env := by rfl) (hpl : (backTo pos (starEach es X.env)).any (·.1) = false := by rfl) :
  PE X (.Call (.Name x p) (e :: es) [] pos) (tMake C sp dvs E t) := by
 intro pins s σ H Q I h
 refine wpAny_Call_Name_kw (ld_glob I hg hm ?_ hdb)
 refine PySem.W.callWith_K (h₀ := X.base) I.ok.mod.kin M.kp (thn (ha pos pins s σ H _ I h) fun us s1 ⟨vs, H1, I1, r, q⟩ => ⟨I1.kIn, ?_⟩) he hpl
 exact run_make M F hr hb hd hx I1 r q
end
section
variable {X : Cx} {CX : CXT} {k : Nat} {f C : Addr} {fd : FuncData} {ps ks : List Str} {sp : Sp} {E : XK} {x m : Str} {p pos apos kpos : Pos} {e o : Expr} {es : List Expr} {kws : List Keyword} {te ta : TE} {t tk : TA} {nm : Option Str}
structure KBinds (K : PySem.W.Frag) (fd : FuncData) (ps ks : List Str) (g : List Value → List Value → List Value) (gV : List V → List V → List V) : Prop where
 to : ∀ (s : Shared) (us ws : List Value), K.In s.heap → (g us ws).length = ps.length → BindsTo s fd ⟨us, ks.zip ws⟩ (ps.zip (g us ws))
 rel : ∀ {vs : List V} {us : List Value} {zs : List V} {ws : List Value}, Vals vs us → Vals zs ws → Vals (gV vs zs) (g us ws)
variable {g : List Value → List Value → List Value} {gV : List V → List V → List V}
end
structure FnScope (N P : List Str) (sc : Scope) : Prop where
 kind : sc.kind = .function
 co : sc.isCoroutine = false
 gen : sc.isGenerator = false
 nd : N.Nodup
 pre : N.take P.length = P
 par : ∀ x ∈ P, sc.names.lookup x = some .local ∨ sc.names.lookup x = some .cell
 nofree : ∀ y ∈ sc.names, y.2 ≠ .free
theorem bindL_out {kindOf : Str → Option NameKind} {x : Str} : ∀ {binds : List (Str × Value)} {m : Str → Option Value}, (∀ v, (x, v) ∉ binds) → bindL kindOf binds m x = m x
 | [], _, _ => rfl
 | (n, v) :: r, m, h => by
  unfold bindL
  rw [bindL_out fun w hw => h w (List.mem_cons_of_mem _ hw)]
  split
  ·have : x ≠ n := by rintro rfl; exact h v List.mem_cons_self
   simp [this]
  ·rfl
theorem bindC_out {kindOf : Str → Option NameKind} {x : Str} : ∀ {binds : List (Str × Value)} {m : Str → Option Value}, (∀ v, (x, v) ∉ binds) → bindC kindOf binds m x = m x
 | [], _, _ => rfl
 | (n, v) :: r, m, h => by
  unfold bindC
  rw [bindC_out fun w hw => h w (List.mem_cons_of_mem _ hw)]
  split
  ·rfl
  ·have : x ≠ n := by rintro rfl; exact h v List.mem_cons_self
   simp [this]
theorem bindL_get {kindOf : Str → Option NameKind} {x : Str} {v : Value} : ∀ {P : List Str} {vs : List Value} {i : Nat} {m : Str → Option Value}, P.Nodup → P[i]? = some x → vs[i]? = some v → kindOf x = some .local →
  bindL kindOf (P.zip vs) m x = some v
 | [], _, _, _, _, h, _, _ => by simp at h
 | _ :: _, [], _, _, _, _, h, _ => by simp at h
 | p :: P, w :: vs, 0, m, nd, h1, h2, hk => by
  simp at h1 h2; subst h1; subst h2
  show bindL kindOf ((p, w) :: P.zip vs) m p = _
  unfold bindL
  rw [bindL_out fun v hv => (List.nodup_cons.mp nd).1 (List.of_mem_zip hv).1, if_pos hk]
  simp
 | p :: P, w :: vs, i + 1, m, nd, h1, h2, hk => by
  show bindL kindOf ((p, w) :: P.zip vs) m x = _
  unfold bindL
  exact bindL_get (i := i) (List.nodup_cons.mp nd).2 (by simpa using h1) (by simpa using h2) hk
theorem bindC_get {kindOf : Str → Option NameKind} {x : Str} {v : Value} : ∀ {P : List Str} {vs : List Value} {i : Nat} {m : Str → Option Value}, P.Nodup → P[i]? = some x → vs[i]? = some v → kindOf x ≠ some .local →
  bindC kindOf (P.zip vs) m x = some v
 | [], _, _, _, _, h, _, _ => by simp at h
 | _ :: _, [], _, _, _, _, h, _ => by simp at h
 | p :: P, w :: vs, 0, m, nd, h1, h2, hk => by
  simp at h1 h2; subst h1; subst h2
  show bindC kindOf ((p, w) :: P.zip vs) m p = _
  unfold bindC
  rw [bindC_out fun v hv => (List.nodup_cons.mp nd).1 (List.of_mem_zip hv).1, if_neg hk]
  simp
 | p :: P, w :: vs, i + 1, m, nd, h1, h2, hk => by
  show bindC kindOf ((p, w) :: P.zip vs) m x = _
  unfold bindC
  exact bindC_get (i := i) (List.nodup_cons.mp nd).2 (by simpa using h1) (by simpa using h2) hk
noncomputable def start (N : List Str) (vs : List V) : St := vs.map some ++ List.replicate (N.length - vs.length) none
noncomputable def cxOf (CX : CXT) (P : Program) (w : World) (K : PySem.W.Frag) (mg : Str → Option Value) (base : Heap) (N : List Str) (qual : Str) (scope : Scope) (f : Addr) (cd : Value) (A : Around) (outer : List Env) (s : Shared) (H : Hp) (E : XK) : Cx where
 prog := P
 w := w
 K := K
 mg := mg
 base := base
 A := A.deeper (envOfC qual scope s.heap.objs.size f cd)
 N := N
 s₀ := s
 H₀ := H
 env := envOfC qual scope s.heap.objs.size f cd
 outer := outer
 stack := envOfC qual scope s.heap.objs.size f cd :: outer
 ex := []
 calm := true
 fn := fun _ => true
 pn := []
 xe := fun e s' => wpAny (model P w) (A.deeper (envOfC qual scope s.heap.objs.size f cd)) (leaving (envOfC qual scope s.heap.objs.size f cd) e) (fun _ s'' => CX outer H s E e s'') (fun e' s'' => CX outer H s E e' s'') s'
theorem cell_has {sc : Scope} {n : Nat} {x : Str} (h : sc.names.lookup x = some .cell) : ∃ c, (cellsFrom n sc.names []).lookup x = some c := by
 have q := PySem.W.cellsFrom_some sc.names n [] (.inl h)
 exact Option.isSome_iff_exists.mp q
theorem inv_start {CX : CXT} {P : Program} {w : World} {K : PySem.W.Frag} {mg : Str → Option Value} {base : Heap} {N ps : List Str} {qual : Str} {scope : Scope} {f : Addr} {cd : Value} {A : Around} {outer : List Env} {s s1 : Shared} {H : Hp} {E : XK} {us : List Value} {vs : List V}
  (S : FnScope N ps scope) (hd : A.handled = none) (e0 : Env0 P w K mg base A outer s H) (hl : vs.length = ps.length) (r : Vals vs us)
  (x : InCallC s s.heap.objs.size (bindL (envOfC qual scope s.heap.objs.size f cd).kindOf (ps.zip us) fun _ => none) (cellsFrom (s.heap.objs.size + 1) scope.names []) (bindC (envOfC qual scope s.heap.objs.size f cd).kindOf (ps.zip us) fun _ => none) s1) :
  Inv (cxOf CX P w K mg base N qual scope f cd A outer s H E) [] (start N vs) H s1 := by
 have hpl : ps.length ≤ N.length := by have := congrArg List.length S.pre; rw [List.length_take] at this; omega
 obtain ⟨h1, tk, rfl, hk⟩ := x.done
 have noA : ∀ b : Addr, b ∉ (cxOf CX P w K mg base N qual scope f cd A outer s H E).ex := fun b z => absurd (show b ∈ ([] : List Addr) from z) (by simp)
 refine ⟨⟨e0.mod, S.kind, rfl, rfl, Nat.le_refl _, fun y z c h1 h2 => ?_, fun y hy => ?_, fun y c _ h => ?_, fun _ => hd, Around.frames_deeper e0.frames, .inr ⟨rfl, rfl⟩, fun b z => absurd z (noA b), e0.bs, e0.bsz, fun b _ _ => noA b, fun b z => absurd z (noA b), e0.funs, e0.frf⟩,
  rfl, e0.bare, Un.kept hk, ⟨_, x.toInCall.ns, fun i y v h1 h2 h3 => ?_⟩, fun y c h => ⟨_, x.cell y c h⟩, e0.hok.fresh (Nat.le_refl _), fun y c h => ?_, fun p hp => absurd (show p ∈ ([] : List (Addr × Obj)) from hp) (by simp), e0.hok.kept hk, ?_⟩
 ·exact name_of_addr x.apart (PySem.mem_of_lookup h1) (PySem.mem_of_lookup h2)
 ·have hy : scope.names.lookup y = some .cell ∨ scope.names.lookup y = some .free := hy
  rcases hy with hy | hy
  ·exact cell_has hy
  ·exact absurd rfl (S.nofree _ (PySem.mem_of_lookup hy))
 ·exact Nat.le_of_lt (x.above y c (PySem.mem_of_lookup h))
 ·have hi : i < vs.length := by
   unfold start at h2
   by_cases hi : i < vs.length
   ·exact hi
   ·rw [List.getElem?_append_right (by simpa using hi)] at h2
    rw [List.getElem?_replicate] at h2
    split at h2 <;> cases h2
  have ha : vs[i]? = some v := by
   unfold start at h2
   rw [List.getElem?_append_left (by simpa using hi), List.getElem?_map] at h2
   cases e : vs[i]? with
   | none => rw [e] at h2; cases h2
   | some a => rw [e] at h2; cases h2; rfl
  obtain ⟨u, hu, rv⟩ := r.get ha
  have hp : ps[i]? = some y := by
   rw [← S.pre, List.getElem?_take_of_lt (by omega)]; exact h1
  have ndP : ps.Nodup := by rw [← S.pre]; exact S.nd.sublist (List.take_sublist _ _)
  refine ⟨u, rv, ?_⟩
  rcases S.par y (List.mem_of_getElem? hp) with k | k
  ·exact .inl ⟨k, bindL_get ndP hp hu k⟩
  ·obtain ⟨c, e⟩ := cell_has (n := s.heap.objs.size + 1) k
   refine .inr ⟨.inl k, c, e, ?_⟩
   have q := x.cell y c e
   rw [bindC_get ndP hp hu (by show scope.names.lookup y ≠ _; rw [k]; decide)] at q
   exact q
 ·exact e0.hok.fresh (Nat.le_of_lt (x.above y c (PySem.mem_of_lookup h)))
 ·unfold start
  show _ = N.length
  rw [List.length_append, List.length_map, List.length_replicate]
  omega
theorem fn_of {CX : CXT} {P : Program} {w : World} {K : PySem.W.Frag} {mg : Str → Option Value} {base : Heap} {k : Nat} {f : Addr} {name qual : Str} {params : Arguments} {body : List Stmt} {scope : Scope} {dV kV doc pm cdv ct oc : Value} {an od : Option Addr}
  {osl : Array (Option Value)} {N ps : List Str} {sp : Sp} (lk : K.lookup f = some ⟨oc, od, .func (PySem.W.fnOf name qual params body scope dV kV doc pm an cdv ct), osl⟩) (hcd : PySem.W.codeIn K cdv qual = true) (S : FnScope N ps scope)
  (len : ∀ vs H Q E, sp vs H Q E → vs.length = ps.length)
  (hbody : ∀ (A : Around) (outer : List Env) (s : Shared) (H : Hp) (vs : List V) (Q : VK) (E : XK), Room k (A.deeper (envOfC qual scope s.heap.objs.size f cdv)) → sp vs H Q E →
   ∃ t, PSs (cxOf CX P w K mg base N qual scope f cdv A outer s H E) body t ∧ t { nx := fun _ H' => Q .non H', rt := Q } (start N vs) H) :
  FnOk P w K mg base CX (k + 1) f (PySem.W.fnOf name qual params body scope dV kV doc pm an cdv ct) ps sp := by
 refine ⟨len, fun A outer s H args us vs Q E hr e0 hb r hsp => ?_⟩
 have hl := len _ _ _ _ hsp
 have KX : K.In s.heap := e0.mod.kin.keeps fun b o e => (e0.bs b o e).1
 have lim : s.heap.NoLimit := e0.mod.nolimit.keeps fun b o e => (e0.bs b o e).1
 have hkind : ∀ y ∈ ps.zip us, scope.names.lookup y.1 = some .local ∨ (scope.names.lookup y.1 = some .cell ∧ ((cellsFrom (s.heap.objs.size + 1) scope.names []).lookup y.1).isSome = true) := fun ⟨n, v⟩ hy => by
  rcases S.par n (List.of_mem_zip hy).1 with q | q
  ·exact .inl q
  ·exact .inr ⟨q, PySem.W.cellsFrom_some _ _ _ (.inl q)⟩
 refine codeAny_call_function hr.depth (KX _ _ lk) rfl S.co S.gen rfl (PySem.W.codeRec_of KX hcd) (hb _ _ _ _ ?_)
 refine wpAny_newFunctionEnv_cells S.kind hkind fun env he s1 x => ?_
 subst he
 refine ⟨lim.keeps x.toInCall.keep, codeAny_func ?_⟩
 obtain ⟨t, ht, hq⟩ := hbody A outer s H vs Q E (hr.deeper _) hsp
 have I : Inv (cxOf CX P w K mg base N qual scope f cdv A outer s H E) [] (start N vs) H s1 := inv_start S hr.hd e0 hl r x
 refine wpAny_mono (ht [] s1 (start N vs) H _ I hq) (fun fl s' hs => ?_) fun e s' hs => hs
 have fin : ∀ {σ' : St} {H' : Hp} {v : V} {u : Value}, Inv (cxOf CX P w K mg base N qual scope f cdv A outer s H E) [] σ' H' s' → RelV v u → Q v H' → CE outer P w H s Q u s' :=
  fun {σ' H' v u} J rv q => ⟨v, H', J.os, J.bare, J.base, J.hok, rv, q⟩
 cases fl with
 | ret u =>
  obtain ⟨v, σ', H', J, rv, q⟩ := hs
  exact fin J rv q
 | next =>
  obtain ⟨σ', H', J, q⟩ := hs
  exact fin (v := V.non) (u := Value.none) J rfl q
 | brk =>
  obtain ⟨_, _, _, q⟩ := hs
  exact False.elim q
 | cont =>
  obtain ⟨_, _, _, q⟩ := hs
  exact False.elim q
end L2
namespace L2
open PySem PySem.Spec PyProof.Rows
section
variable {X : Cx} {x : Str} {p pos : Pos} {e : Expr} {es : List Expr} {t : TA} {id T : String} {r : List V → Hp → VK → Prop}
noncomputable def tCB (r : List V → Hp → VK → Prop) (t : TA) : TE := fun σ H Q => t σ H fun vs H1 => r vs H1 Q
theorem pe_callB (hc : CallR X (.builtin id) r) (hg : Gl X x) (hm : X.mg x = none) (hv : bootBuiltins x = some (.builtin id)) (ha : PA X (e :: es) t) (hn : x ≠ "__name__" := by decide) (hdb : (x == ("__debug__" : Str)) = false := by decide)
  (he : starEach (e :: es) X.env = (false, eval e X.env) :: starEach es X.env := by rfl) (hpl : (backTo pos (starEach es X.env)).any (·.1) = false := by rfl) : PE X (.Call (.Name x p) (e :: es) [] pos) (tCB r t) := by
 intro pins s σ H Q I h
 refine wpAny_Call_Name_kw (ld_blt I hg hm hv ?_ hn hdb)
 exact PyProof.Rows.callWith_builtin1 (thn (ha pos pins s σ H _ I h) fun us s1 ⟨vs, H1, I1, r1, q1⟩ => hc pins s1 σ H1 vs us Q I1 r1 q1) he hpl
theorem pe_callTy (hc : CallR X (.type T) r) (hg : Gl X x) (hm : X.mg x = none) (hv : bootBuiltins x = some (.type T)) (ha : PA X (e :: es) t) (hn : x ≠ "__name__" := by decide) (hdb : (x == ("__debug__" : Str)) = false := by decide)
  (he : starEach (e :: es) X.env = (false, eval e X.env) :: starEach es X.env := by rfl) (hpl : (backTo pos (starEach es X.env)).any (·.1) = false := by rfl) : PE X (.Call (.Name x p) (e :: es) [] pos) (tCB r t) := by
 intro pins s σ H Q I h
 refine wpAny_Call_Name_kw (ld_blt I hg hm hv ?_ hn hdb)
 exact PyProof.Rows.callWith_type1 (thn (ha pos pins s σ H _ I h) fun us s1 ⟨vs, H1, I1, r1, q1⟩ => hc pins s1 σ H1 vs us Q I1 r1 q1) he hpl
end
end L2
namespace HT
open PySem PyProof.Rows
section
open PySem.SeqAt
open PySem.AutoSeq1 (wpAny_loadPart')
open PySem.MeetsSeq PySem.MeetsSeq2 PySem.MeetsSeq3
end
section
variable {prog : Program} {w : World} {A : Around} {E : Value → Shared → Prop} {s : Shared}
noncomputable def sIx (n d : Nat) : Option Int → Nat
 | none => d
 | some v => if v < 0 then (v + (n : Int)).toNat else min v.toNat n
theorem sIx_le (n d : Nat) (hd : d ≤ n) (o : Option Int) : sIx n d o ≤ n := by
 cases o with
 | none => exact hd
 | some v =>
  show (if v < 0 then (v + (n : Int)).toNat else min v.toNat n) ≤ n
  by_cases hv : v < 0
  ·rw [if_pos hv]; omega
  ·rw [if_neg hv]; exact Nat.min_le_right _ _
theorem clip_eq (v : Int) (n d : Nat) : (if v < 0 then max (v + (n : Int)) 0 else min v (n : Int)) = ((sIx n d (some v) : Nat) : Int) := by
 show (if v < 0 then max (v + (n : Int)) 0 else min v (n : Int)) = (((if v < 0 then (v + (n : Int)).toNat else min v.toNat n) : Nat) : Int)
 by_cases hv : v < 0
 ·simp only [if_pos hv]; omega
 ·simp only [if_neg hv]; omega
theorem adjust_gen (lo hi : Option Int) (n : Nat) : Builtin.Slice.sliceAdjust lo hi 1 (n : Int) = (((sIx n 0 lo : Nat) : Int), ((sIx n n hi : Nat) : Int)) := by
 have h1 : ¬ ((1 : Int) < 0) := by omega
 unfold Builtin.Slice.sliceAdjust
 simp only [h1, if_false]
 refine Prod.ext ?_ ?_
 ·cases lo with
  | none => rfl
  | some v => exact clip_eq v n 0
 ·cases hi with
  | none => rfl
  | some v => exact clip_eq v n n
theorem places_gen (i j : Nat) : Builtin.Slice.slicePlaces (i : Int) (j : Int) 1 = j - i := by
 unfold Builtin.Slice.slicePlaces
 have h1 : (1 : Int) > 0 := by omega
 simp only [h1, if_true, Int.ediv_one]
 split <;> omega
theorem slicePart_ {v : Value} {o : Option Int} {Q : Option Int → Shared → Prop} (p : IsPart v o) (h : Q o s) : wpAny (model prog w) A (Builtin.Slice.slicePartIndex v) Q E s := by
 cases p with
 | none => exact slicePart_none h
 | int i t => exact slicePart_int h
theorem sliceApplied_gen {sl : Addr} {vl vu : Value} {lo hi : Option Int} {n : Nat} {Q : Int × Int × Nat → Shared → Prop} (hs : s.heap.IsSliceOf sl vl vu .none) (pl : IsPart vl lo) (pu : IsPart vu hi)
  (h : Q (((sIx n 0 lo : Nat) : Int), 1, sIx n n hi - sIx n 0 lo) s) : wpAny (model prog w) A (Builtin.Slice.sliceApplied (.ref sl) (pure (n : Int))) Q E s := by
 obtain ⟨os, hos, hcs, hds⟩ := id hs
 unfold Builtin.Slice.sliceApplied Builtin.Slice.sliceFields
 refine wpAny_bind (wpAny_bind (wpAny_field hos hds (x := vl) rfl (wpAny_bind (wpAny_field hos hds (x := vu) rfl (wpAny_bind (wpAny_field hos hds (x := .none) rfl (wpAny_pure ?_)))))))
 refine wpAny_bind (slicePart_none ?_)
 show wpAny _ _ (if ((1 : Int) == 0) = true then _ else _) _ _ s
 rw [if_neg (by decide)]
 refine wpAny_bind (slicePart_ pl (wpAny_bind (slicePart_ pu (wpAny_bind (wpAny_pure ?_)))))
 show wpAny _ _ (match Builtin.Slice.sliceAdjust lo hi 1 (n : Int) with | (lo, hi) => pure (lo, (1 : Int), Builtin.Slice.slicePlaces lo hi 1)) _ _ s
 rw [adjust_gen lo hi n]
 show wpAny _ _ (pure (((sIx n 0 lo : Nat) : Int), (1 : Int), Builtin.Slice.slicePlaces ((sIx n 0 lo : Nat) : Int) ((sIx n n hi : Nat) : Int) 1)) _ _ s
 rw [places_gen]
 exact wpAny_pure h
theorem pick_gen (xs : Array Value) (i k : Nat) : ((List.range k).filterMap fun (m : Nat) => xs[((i : Int) + (m : Int) * 1).toNat]?).toArray = ((xs.toList.drop i).take k).toArray := by
 have e : (fun (m : Nat) => xs[((i : Int) + (m : Int) * 1).toNat]?) = fun m => xs[i + m]? := by
  funext m
  have : ((i : Int) + (m : Int) * 1).toNat = i + m := by omega
  rw [this]
 rw [e]
 have := pick_run xs i k
 rw [List.filterMap_map] at this
 have e2 : ((fun x => xs[x]?) ∘ fun x => i + x) = fun m => xs[i + m]? := rfl
 rw [e2] at this
 rw [this]
theorem getItem_tuple_cut {t sl : Addr} {items : Array Value} {vl vu : Value} {lo hi : Option Int} {Q : Value → Shared → Prop} (ht : IsTup s.heap t items) (hs : s.heap.IsSliceOf sl vl vu .none) (pl : IsPart vl lo) (pu : IsPart vu hi)
  (hw : ¬ (sIx items.size 0 lo = 0 ∧ sIx items.size items.size hi = items.size))
  (h : Q (.ref s.heap.objs.size) { s with heap := s.heap.push { cls := .type "tuple", data := .seq ((items.toList.drop (sIx items.size 0 lo)).take (sIx items.size items.size hi - sIx items.size 0 lo)).toArray } })
  (hsz : items.size ≤ sizeLine) : wpAny (model prog w) A (getItem (.ref t) (.ref sl)) Q E s := by
 have htake : sizeOk (.seq ((items.toList.drop (sIx items.size 0 lo)).take (sIx items.size items.size hi - sIx items.size 0 lo)).toArray) := by
  show ((items.toList.drop (sIx items.size 0 lo)).take (sIx items.size items.size hi - sIx items.size 0 lo)).toArray.size ≤ sizeLine
  rw [List.size_toArray, List.length_take, List.length_drop, Array.length_toList]
  omega
 have hj : sIx items.size items.size hi ≤ items.size := sIx_le _ _ (Nat.le_refl _) hi
 obtain ⟨os, hos, hcs, hds⟩ := id hs
 have hTs : s.TypeIs (.ref sl) "slice" := ⟨os, hos, hcs⟩
 unfold getItem
 try with_reducible refine wpAny_holding ?_
 first | refine wpAny_bind (wpAny_pure ?_) | skip
 refine wpAny_bind (wpAny_sequenceKey ht.typeIs (by decide) ?_)
 refine wpAny_bind (wpAny_callSpecial?_slot (name := Str.ofString "__getitem__") ht.typeIs PyProof.Rows.slot_tuple_getitem
  (wpAny_call_entry PyProof.Rows.slot_tuple_getitem ht.typeIs entry_tuple_getitem ?_ (args_tuple_getitem _ _)))
 show wpAny _ _ (Builtin.Tuple.tupleItemsOf (.ref t) >>= _) _ _ s
 refine wpAny_bind (tupleItemsOf_ ht ?_)
 refine wpAny_bind (wpAny_typeOf hTs ?_)
 rw [if_pos (by decide)]
 refine wpAny_bind (sliceApplied_gen hs pl pu ?_)
 have hno : ¬ ((((sIx items.size 0 lo : Nat) : Int) == 0 && (1 : Int) == 1 && (sIx items.size items.size hi - sIx items.size 0 lo) == items.size) = true) := by
  intro q
  rw [Bool.and_eq_true, Bool.and_eq_true] at q
  have q1 : ((sIx items.size 0 lo : Nat) : Int) = 0 := eq_of_beq q.1.1
  have q2 : sIx items.size items.size hi - sIx items.size 0 lo = items.size := eq_of_beq q.2
  exact hw ⟨by omega, by omega⟩
 show wpAny _ _ (if (((sIx items.size 0 lo : Nat) : Int) == 0 && (1 : Int) == 1 && (sIx items.size items.size hi - sIx items.size 0 lo) == items.size) = true then _ else _) _ _ s
 rw [if_neg hno, pick_gen]
 first
  | exact wpAny_bind (m := Builtin.Tuple.tupleExact _) (wpAny_newObj_type (wpAny_pure ⟨_, rfl, wpAny_pure h⟩) htake)
  | exact wpAny_bind (m := Builtin.Tuple.tupleExact _) (wpAny_newObj_type (wpAny_bind (wpAny_pure (wpAny_pure ⟨_, rfl, wpAny_pure h⟩))) htake)
  | exact wpAny_bind (wpAny_bind (m := Builtin.Tuple.tupleExact _) (wpAny_newObj_type (wpAny_pure (wpAny_pure ⟨_, rfl, wpAny_pure h⟩)) htake))
  | exact wpAny_bind (wpAny_bind (m := Builtin.Tuple.tupleExact _) (wpAny_newObj_type (wpAny_pure ⟨_, rfl, wpAny_pure h⟩) htake))
end
end HT
namespace L2
open PySem PySem.Spec PyProof.Rows
noncomputable abbrev TO := St → Hp → (Option Int → Hp → Prop) → Prop
noncomputable def PO (X : Cx) (e : Option Expr) (t : TO) : Prop :=
 ∀ (pins : List (Addr × Obj)) (s : Shared) (σ : St) (H : Hp) (Q : Option Int → Hp → Prop), Inv X pins σ H s → t σ H Q →
  wpAny (model X.prog X.w) X.A (evalPart e X.env) (fun u s' => ∃ o H', Inv X pins σ H' s' ∧ IsPart u o ∧ Q o H') X.xe s
noncomputable def tNoPart : TO := fun _ H Q => Q none H
noncomputable def tPart (t : TE) : TO := fun σ H Q => t σ H fun x H1 => ∃ i, x = .int i ∧ Q (some i) H1
theorem intsAre_of {ns : List Int} : ∀ {us : List Value}, Vals (ns.map V.int) us → IntsAre us ns := by
 induction ns with
 | nil => intro us r; rw [List.map_nil] at r; cases r; exact .nil
 | cons n ns ih =>
  intro us r
  rw [List.map_cons] at r
  cases r with
  | cons r1 r2 =>
   obtain ⟨t, e⟩ := r1
   subst e
   exact .cons n t (ih r2)
section
variable {X : Cx} {e : Expr} {te : TE} {lo hi : Option Expr} {tl th : TO} {pos p2 : Pos}
theorem po_none : PO X none tNoPart := by
 intro pins s σ H Q I h
 rw [evalPart_none]
 exact wpAny_pure ⟨none, H, I, .none, h⟩
theorem po_some (h : PE X e te) : PO X (some e) (tPart te) := by
 intro pins s σ H Q I hw
 rw [evalPart_some]
 refine thn (h pins s σ H _ I hw) fun u s1 ⟨x, H1, I1, r1, q1⟩ => ?_
 obtain ⟨i, rfl, q⟩ := q1
 obtain ⟨t, rfl⟩ := r1
 exact ⟨some i, H1, I1, .int i t, q⟩
noncomputable def SlR (X : Cx) (r : V → Option Int → Option Int → Hp → VK → Prop) : Prop :=
 ∀ (pins : List (Addr × Obj)) (s : Shared) (σ : St) (H : Hp) (x : V) (v vl vu : Value) (lo hi : Option Int) (sl : Addr) (Q : VK), Inv X pins σ H s → RelV x v → s.heap.IsSliceOf sl vl vu .none → IsPart vl lo → IsPart vu hi → r x lo hi H Q →
  ∃ T id, typeLookup (.type T) "__getitem__" = pure (some (.builtin id)) ∧ s.TypeIs v T ∧ wpAny (model X.prog X.w) X.A (getItem v (.ref sl)) (EP X pins σ Q) X.xe s
noncomputable def tSl (r : V → Option Int → Option Int → Hp → VK → Prop) (te : TE) (tl th : TO) : TE := fun σ H Q => te σ H fun x H1 => tl σ H1 fun l H2 => th σ H2 fun u H3 => r x l u H3 Q
theorem pe_slice {r : V → Option Int → Option Int → Hp → VK → Prop} (hr : SlR X r) (he : PE X e te) (hl : PO X lo tl) (hu : PO X hi th) : PE X (.Subscript e (.Slice lo hi none p2) pos) (tSl r te tl th) := by
 intro pins s σ H Q I h
 refine Subscript_ (thn (he pins s σ H _ I h) fun v s1 ⟨x, H1, I1, r1, q1⟩ => ?_)
 refine wpAny_Slice (thn (hl pins s1 σ H1 _ I1 q1) fun vl s2 ⟨l, H2, I2, pl, q2⟩ => thn (hu pins s2 σ H2 _ I2 q2) fun vu s3 ⟨u, H3, I3, pu, q3⟩ => ?_)
 rw [evalPart_none]
 refine wpAny_pure ?_
 have I4 : Inv X pins σ H3 { s3 with heap := s3.heap.push { cls := .type "slice", data := .fields #[vl, vu, .none] } } := I3.kept (t' := s3.toks) fun b ob q => Heap.get?_push_of_some _ q
 obtain ⟨T, id, hT, ht, hg⟩ := hr pins { s3 with heap := s3.heap.push { cls := .type "slice", data := .fields #[vl, vu, .none] } } σ H3 x v vl vu l u s3.heap.objs.size Q I4 r1 (Heap.IsSliceOf.new ..) pl pu q3
 show wpAny (model X.prog X.w) X.A (subscriptTail e (.Slice lo hi none p2) v (.ref s3.heap.objs.size)) (EP X pins σ Q) X.xe { s3 with heap := s3.heap.push { cls := .type "slice", data := .fields #[vl, vu, .none] } }
 exact tail_any (ops := [.ref s3.heap.objs.size, v]) ht hT hg (by with_unfolding_all rfl)
noncomputable def cutV (xs : List V) (lo hi : Option Int) : List V := (xs.drop (HT.sIx xs.length 0 lo)).take (HT.sIx xs.length xs.length hi - HT.sIx xs.length 0 lo)
theorem cutV_length (xs : List V) (lo hi : Option Int) : (cutV xs lo hi).length ≤ xs.length := by
 unfold cutV
 rw [List.length_take, List.length_drop]
 omega
noncomputable def rSlT (K : PySem.W.Frag) : V → Option Int → Option Int → Hp → VK → Prop := fun x lo hi H Q => ∃ a xs, x = .ref a ∧ SqT K H a xs ∧
 ¬ (HT.sIx xs.length 0 lo = 0 ∧ HT.sIx xs.length xs.length hi = xs.length) ∧ ∀ p, H p = none → Q (.ref p) (upd H p (.tup (cutV xs lo hi)))
theorem sl_tup : SlR X (rSlT X.K) := by
 intro pins s σ H x v vl vu lo hi sl Q I rx hs pl pu h
 obtain ⟨a, xs, rfl, hx, hw, q⟩ := h
 cases rx
 obtain ⟨its, r, ht, hz⟩ := I.tuple hx
 have hlen : its.toArray.size = xs.length := by rw [List.size_toArray]; exact r.length.symm
 refine ⟨"tuple", _, PyProof.Rows.slot_tuple_getitem.lookup, ht.typeIs, ?_⟩
 refine HT.getItem_tuple_cut ht hs pl pu (by rw [hlen]; exact hw) ?_ (by rw [hlen]; exact hz)
 rw [hlen]
 refine ⟨.ref s.heap.objs.size, _, I.laid (t' := s.toks) (o := .tup (cutV xs lo hi)) (fun b ob q => Heap.get?_push_of_some _ q) (Nat.le_refl _) ?_, rfl, q _ (I.hok.fresh (Nat.le_refl _))⟩
 exact ⟨Nat.le_trans (cutV_length xs lo hi) hz, _, (r.drop (HT.sIx xs.length 0 lo)).take (HT.sIx xs.length xs.length hi - HT.sIx xs.length 0 lo), IsTup.new _ _⟩
end
end L2
namespace L2
open PySem PySem.Spec PyProof.Rows
noncomputable def ixN (n : Nat) (i : Int) : Option Nat := if 0 ≤ i then (if i < n then some i.toNat else none) else if -(n : Int) ≤ i then some (i + n).toNat else none
noncomputable def atI {α : Type} (xs : List α) (i : Int) : Option α := (ixN xs.length i).bind fun j => xs[j]?
theorem ixN_seq {n : Nat} {i : Int} {j : Nat} (h : ixN n i = some j) : seqIndex? i n = some j ∧ j < n ∧ -(n : Int) ≤ i ∧ i < n := by
 unfold ixN at h
 by_cases h0 : 0 ≤ i
 ·rw [if_pos h0] at h
  by_cases h1 : i < n
  ·rw [if_pos h1] at h
   have e : i.toNat = j := Option.some.inj h
   exact ⟨by rw [seqIndex_of h0 h1, e], by omega, by omega, h1⟩
  ·rw [if_neg h1] at h; cases h
 ·rw [if_neg h0] at h
  by_cases h1 : -(n : Int) ≤ i
  ·rw [if_pos h1] at h
   have e : (i + n).toNat = j := Option.some.inj h
   exact ⟨by rw [seqIndex_neg (by omega) h1, e], by omega, h1, by omega⟩
  ·rw [if_neg h1] at h; cases h
theorem atI_get {α : Type} {xs : List α} {i : Int} {v : α} (h : atI xs i = some v) : ∃ j, seqIndex? i xs.length = some j ∧ xs[j]? = some v ∧ j < xs.length ∧ -(xs.length : Int) ≤ i ∧ i < xs.length := by
 unfold atI at h
 cases e : ixN xs.length i with
 | none => rw [e] at h; cases h
 | some j =>
  rw [e] at h
  obtain ⟨h1, h2, h3, h4⟩ := ixN_seq e
  exact ⟨j, h1, h, h2, h3, h4⟩
theorem atI_nat {α : Type} {xs : List α} {j : Nat} {v : α} (h : xs[j]? = some v) : atI xs (j : Int) = some v := by
 have hj : j < xs.length := (List.getElem?_eq_some_iff.mp h).1
 have e : ixN xs.length (j : Int) = some j := by
  unfold ixN
  rw [if_pos (by omega), if_pos (by omega)]; simp
 unfold atI; rw [e]; exact h
noncomputable def PlainIx (b : Expr) : Prop := ∀ o i, subscripted b false o i = operate [o, i] (getItem o i)
noncomputable def IxR (X : Cx) (r : R2) : Prop :=
 ∀ (value slice : Expr) (pins : List (Addr × Obj)) (s : Shared) (σ : St) (H : Hp) (x y : V) (v u : Value) (Q : VK), Inv X pins σ H s → RelV x v → RelV y u → r x y H Q →
  subscripted slice false v u = operate [v, u] (getItem v u) → wpAny (model X.prog X.w) X.A (subscriptTail value slice v u) (EP X pins σ Q) X.xe s
noncomputable def MtR (X : Cx) (id : String) (r : V → List V → Hp → VK → Prop) : Prop :=
 ∀ (pins : List (Addr × Obj)) (s : Shared) (σ : St) (H : Hp) (x : V) (xs : List V) (v : Value) (us : List Value) (Q : VK), Inv X pins σ H s → RelV x v → Vals xs us → r x xs H Q →
  wpAny (model X.prog X.w) X.A (call (.builtin id) (v :: us)) (EP X pins σ Q) X.xe s
section
variable {X : Cx} {a b : Expr} {ta tb : TE} {pos : Pos}
theorem pe_ix {r : R2} (hr : IxR X r) (ha : PE X a ta) (hb : PE X b tb) (hs : PlainIx b) : PE X (.Subscript a b pos) (tOp r ta tb) := by
 intro pins s σ H Q I h
 exact Subscript_ (binT ha hb I h fun v u s2 x y H2 I2 rx ry q => hr a b pins s2 σ H2 x y v u Q I2 rx ry q (hs _ _))
noncomputable def rIxL (K : PySem.W.Frag) : R2 := fun x y H Q => ∃ p xs i v, x = .ref p ∧ y = .int i ∧ SqL K H p xs ∧ atI xs i = some v ∧ Q v H
noncomputable def rIxT (K : PySem.W.Frag) : R2 := fun x y H Q => ∃ p xs i v, x = .ref p ∧ y = .int i ∧ SqT K H p xs ∧ atI xs i = some v ∧ Q v H
noncomputable def rIxS : R2 := fun x y H Q => ∃ z i c, x = .str z ∧ y = .int i ∧ z.length ≤ sizeLine ∧ atI z.cps.toList i = some c ∧ Q (.str ⟨#[c]⟩) H
theorem ix_list : IxR X (rIxL X.K) := by
 intro value slice pins s σ H x y v u Q I rx ry h hs
 obtain ⟨p, xs, i, z, rfl, rfl, hq, he, q⟩ := h
 cases rx
 obtain ⟨t, rfl⟩ := ry
 obtain ⟨its, r, pl, hz⟩ := I.list hq
 obtain ⟨j, h1, h2, h3, h4, h5⟩ := atI_get he
 obtain ⟨w, ew, rw'⟩ := r.get h2
 have hl := r.length
 have hn := line63
 have fin : EP X pins σ Q w s := ⟨z, H, I, rw', q⟩
 by_cases h0 : 0 ≤ i
 ·have hj : i.toNat = j := by
   rw [seqIndex_of h0 h5] at h1
   exact Option.some.inj h1
  exact item_listR pl.isList h0 (by omega) (by rw [hj]; simpa using ew) fin hs
 ·have hj : (i + (its.toArray.size : Int)).toNat = j := by
   rw [seqIndex_neg (by omega) h4] at h1
   rw [List.size_toArray, ← hl]
   exact Option.some.inj h1
  exact subscriptTail_builtinR (x := w) pl.isList.typeIs slot_list_getitem.lookup
   (wpAny_getItem_list_neg (Q := fun r s' => r = w ∧ EP X pins σ Q r s') pl.isList (by omega) (by rw [List.size_toArray] <;> omega) (by omega) (by rw [hj]; simpa using ew) ⟨rfl, fin⟩) hs
theorem ix_tup : IxR X (rIxT X.K) := by
 intro value slice pins s σ H x y v u Q I rx ry h hs
 obtain ⟨p, xs, i, z, rfl, rfl, hq, he, q⟩ := h
 cases rx
 obtain ⟨t, rfl⟩ := ry
 obtain ⟨its, r, pl, hz⟩ := I.tuple hq
 obtain ⟨j, h1, h2, h3, h4, h5⟩ := atI_get he
 obtain ⟨w, ew, rw'⟩ := r.get h2
 have hl := r.length
 have hn := line63
 have fin : EP X pins σ Q w s := ⟨z, H, I, rw', q⟩
 exact subscriptTail_builtinR (x := w) pl.typeIs slot_tuple_getitem.lookup
  (getItem_tuple (j := j) (Q := fun r s' => r = w ∧ EP X pins σ Q r s') pl (by omega) (by omega) (by rw [List.size_toArray, ← hl]; exact h1) (by simpa using ew) ⟨rfl, fin⟩) hs
theorem ix_str : IxR X rIxS := by
 intro value slice pins s σ H x y v u Q I rx ry h hs
 obtain ⟨z, i, c, rfl, rfl, hz, he, q⟩ := h
 obtain ⟨t, rfl⟩ := rx
 obtain ⟨t', rfl⟩ := ry
 obtain ⟨j, h1, h2, h3, h4, h5⟩ := atI_get he
 have hl : z.cps.toList.length = z.length := by simp [Str.length]
 rw [hl] at h1 h4 h5
 have hn := line63
 exact tail_any (typeIs_str s z t) slot_str_getitem.lookup (getItem_str (c := c) (by
  have e1 : decide (i < -(2 ^ 63 : Int)) = false := decide_eq_false (by omega)
  have e2 : decide (i ≥ 2 ^ 63) = false := decide_eq_false (by omega)
  rw [e1, e2, Bool.or_false]) (by rw [h1]; simpa using h2) ⟨.str ⟨#[c]⟩, H, I.tok _, ⟨_, rfl⟩, q⟩) hs
theorem mapSeq_set (its : List Value) (n j : Nat) (u : Value) : Obj.mapSeq (·.setIfInBounds j u) { cls := .type "list", data := .seq its.toArray n } = { cls := .type "list", data := .seq (its.set j u).toArray n } := by
 simp [Obj.mapSeq]
theorem Inv.lst {pins : List (Addr × Obj)} {σ : St} {H : Hp} {s : Shared} {p : Addr} {xs : List V} (I : Inv X pins σ H s) (h : H p = some (.lst xs)) :
  ∃ (its : List Value) (n : Nat), Vals xs its ∧ s.heap.get? p = some { cls := .type "list", data := .seq its.toArray n } ∧ xs.length ≤ sizeLine := by
 obtain ⟨z, its, n, r, e⟩ := I.hok p _ h
 exact ⟨its, n, r, e, z⟩
theorem Inv.lstUpd {pins : List (Addr × Obj)} {σ : St} {H : Hp} {s : Shared} {p : Addr} {xs ys : List V} {its its' : List Value} {n n' : Nat} {f : Obj → Obj} (I : Inv X pins σ H s) (h : H p = some (.lst xs))
  (ho : s.heap.get? p = some { cls := .type "list", data := .seq its.toArray n }) (hf : f { cls := .type "list", data := .seq its.toArray n } = { cls := .type "list", data := .seq its'.toArray n' }) (r : Vals ys its') (hz : ys.length ≤ sizeLine) (t : Nat) :
  Inv X pins σ (upd H p (.lst ys)) { s with heap := s.heap.update p f, toks := t } := by
 have e : (s.heap.update p f).get? p = some { cls := .type "list", data := .seq its'.toArray n' } := by
  rw [Heap.get?_update_self f ho (by rw [hf] <;> rfl), hf]
 refine I.write (x := p) (e := p) (by rw [h]; trivial) (.inl rfl) (fun b u hb q => (Heap.get?_update_other _ _ (Ne.symm hb)).trans q) ⟨_, e⟩ ?_
 exact ⟨hz, its', n', r, e⟩
noncomputable def rSetL : V → V → V → Hp → (Hp → Prop) → Prop := fun o i v H Q => ∃ p xs k j, o = .ref p ∧ i = .int k ∧ H p = some (.lst xs) ∧ ixN xs.length k = some j ∧ Q (upd H p (.lst (xs.set j v)))
theorem set_list : PSet X rSetL := by
 intro pins s σ H o i v ov iv u Q I ro ri rv h
 obtain ⟨p, xs, k, j, rfl, rfl, hp, hj, q⟩ := h
 cases ro
 obtain ⟨t, rfl⟩ := ri
 obtain ⟨its, n, r, ho, hz⟩ := I.lst hp
 obtain ⟨h1, h2, h3, h4⟩ := ixN_seq hj
 have hl := r.length
 have hn := line63
 have I' : Inv X pins σ (upd H p (.lst (xs.set j v))) { s with heap := s.heap.update p (Obj.mapSeq (·.setIfInBounds j u)) } :=
  I.lstUpd hp ho (mapSeq_set its n j u) (r.set rv j) (by rw [List.length_set]; exact hz) s.toks
 by_cases h0 : 0 ≤ k
 ·have hk : k.toNat = j := by
   rw [seqIndex_of h0 h4] at h1
   exact Option.some.inj h1
  exact PySem.W.ki_setAt ho h0 (by omega) (by rw [List.size_toArray, ← hl]; exact h4) (by rw [hk]; exact ⟨_, I', q⟩)
 ·have hk : (k + (its.toArray.size : Int)).toNat = j := by
   rw [seqIndex_neg (by omega) h3] at h1
   rw [List.size_toArray, ← hl]
   exact Option.some.inj h1
  exact PySem.W.ki_setBack ho (by omega) (by rw [List.size_toArray, ← hl]; exact h3) (by omega) (by rw [hk]; exact ⟨_, I', q⟩)
theorem slice_bounds (lo hi : Option Int) (n : Nat) : (sliceBounds lo hi none n).1 = ((HT.sIx n 0 lo : Nat) : Int) ∧ (sliceBounds lo hi none n).2.1 = ((HT.sIx n n hi : Nat) : Int) ∧ (sliceBounds lo hi none n).2.2 = 1 := by
 refine ⟨?_, ?_, rfl⟩
 ·cases lo with
  | none => simp [sliceBounds, HT.sIx]
  | some i =>
   simp only [sliceBounds, HT.sIx, Option.getD_none, show (1 : Int) > 0 by decide, if_true]
   by_cases h : i < 0
   ·simp only [h, if_true] <;> omega
   ·simp only [h, if_false] <;> omega
 ·cases hi with
  | none => simp [sliceBounds, HT.sIx]
  | some i =>
   simp only [sliceBounds, HT.sIx, Option.getD_none, show (1 : Int) > 0 by decide, if_true]
   by_cases h : i < 0
   ·simp only [h, if_true] <;> omega
   ·simp only [h, if_false] <;> omega
theorem slicePick_cut (its : List Value) (lo hi : Option Int) : slicePick its.toArray lo hi none = ((its.drop (HT.sIx its.length 0 lo)).take (HT.sIx its.length its.length hi - HT.sIx its.length 0 lo)).toArray := by
 obtain ⟨h1, h2, h3⟩ := slice_bounds lo hi its.toArray.size
 unfold slicePick
 rw [h1, h2, h3]
 simp only [sliceRange_one, pick_run, List.size_toArray] <;> rfl
noncomputable def rSlL (K : PySem.W.Frag) : V → Option Int → Option Int → Hp → VK → Prop := fun x lo hi H Q => ∃ a xs, x = .ref a ∧ SqL K H a xs ∧ ∀ p, H p = none → Q (.ref p) (upd H p (.lst (cutV xs lo hi)))
theorem sl_list : SlR X (rSlL X.K) := by
 intro pins s σ H x v vl vu lo hi sl Q I rx hs pl pu h
 obtain ⟨a, xs, rfl, hx, q⟩ := h
 cases rx
 obtain ⟨its, r, ht, hz⟩ := I.list hx
 have hlen := r.length
 refine ⟨"list", _, slot_list_getitem.lookup, ht.isList.typeIs, ?_⟩
 refine wpAny_getItem_list_slice ht.isList hs pl pu .none (by simp) ?_ (by rw [List.size_toArray] <;> omega)
 rw [slicePick_cut, ← hlen]
 refine ⟨.ref s.heap.objs.size, _, I.laid (t' := s.toks) (o := .lst (cutV xs lo hi)) (fun b ob q => Heap.get?_push_of_some _ q) (Nat.le_refl _) ?_, rfl, q _ (I.hok.fresh (Nat.le_refl _))⟩
 exact ⟨Nat.le_trans (cutV_length xs lo hi) hz, _, 0, (r.drop (HT.sIx xs.length 0 lo)).take (HT.sIx xs.length xs.length hi - HT.sIx xs.length 0 lo), Heap.get?_push_size _ rfl⟩
noncomputable def flatV : V → Bool
 | .non => true
 | .bl _ => true
 | .int _ => true
 | .str _ => true
 | _ => false
noncomputable def eqV : V → V → Bool
 | .non, .non => true
 | .bl a, .bl b => a == b
 | .bl a, .int b => (if a then 1 else 0) == b
 | .int a, .bl b => a == (if b then 1 else 0)
 | .int a, .int b => a == b
 | .str a, .str b => a == b
 | _, _ => false
theorem eqAt_V {A : Around} {s : Shared} {y x : V} {u v : Value} (ry : RelV y u) (rx : RelV x v) (fy : flatV y = true) (fx : flatV x = true) : SeqAt.EqAt A s u v (eqV y x) := by
 cases y with
 | non =>
  cases ry
  cases x with
  | non => cases rx; exact SeqAt.EqAt.same _
  | bl b => cases rx; exact SeqAt.EqAt.none_bool b
  | int b => obtain ⟨t, rfl⟩ := rx; exact SeqAt.EqAt.none_int b t
  | str b => obtain ⟨t, rfl⟩ := rx; exact SeqAt.EqAt.none_str b t
  | _ => exact absurd (show false = true from fx) Bool.false_ne_true
 | bl a =>
  cases ry
  cases x with
  | non => cases rx; exact SeqAt.EqAt.bool_none a
  | bl b => cases rx; exact SeqAt.EqAt.bool_bool a b
  | int b => obtain ⟨t, rfl⟩ := rx; exact SeqAt.EqAt.bool_int a b t
  | str b => obtain ⟨t, rfl⟩ := rx; exact SeqAt.EqAt.bool_str a b t
  | _ => exact absurd (show false = true from fx) Bool.false_ne_true
 | int a =>
  obtain ⟨t', rfl⟩ := ry
  cases x with
  | non => cases rx; exact SeqAt.EqAt.int_none a t'
  | bl b => cases rx; exact SeqAt.EqAt.int_bool a t' b
  | int b => obtain ⟨t, rfl⟩ := rx; exact SeqAt.EqAt.int_int a t' b t
  | str b => obtain ⟨t, rfl⟩ := rx; exact SeqAt.EqAt.int_str a t' b t
  | _ => exact absurd (show false = true from fx) Bool.false_ne_true
 | str a =>
  obtain ⟨t', rfl⟩ := ry
  cases x with
  | non => cases rx; exact SeqAt.EqAt.str_none a t'
  | bl b => cases rx; exact SeqAt.EqAt.str_bool a t' b
  | int b => obtain ⟨t, rfl⟩ := rx; exact SeqAt.EqAt.str_int a t' b t
  | str b => obtain ⟨t, rfl⟩ := rx; exact SeqAt.EqAt.str_str a t' b t
  | _ => exact absurd (show false = true from fx) Bool.false_ne_true
 | _ => exact absurd (show false = true from fy) Bool.false_ne_true
noncomputable def eqU (x : V) (u : Value) : Bool := match u with
 | .none => eqV .non x
 | .bool b => eqV (.bl b) x
 | .int i _ => eqV (.int i) x
 | .str z _ => eqV (.str z) x
 | _ => false
theorem eqU_of {x y : V} {u : Value} (r : RelV y u) (f : flatV y = true) : eqU x u = eqV y x := by
 cases y with
 | non => cases r; rfl
 | bl b => cases r; rfl
 | int i => obtain ⟨t, rfl⟩ := r; rfl
 | str z => obtain ⟨t, rfl⟩ := r; rfl
 | _ => exact absurd (show false = true from f) Bool.false_ne_true
theorem any_eqU {x : V} : ∀ {xs : List V} {us : List Value}, Vals xs us → xs.all flatV = true → us.any (eqU x) = xs.any fun y => eqV y x
 | _, _, .nil, _ => rfl
 | y :: xs, u :: us, .cons r t, f => by
  rw [List.all_cons, Bool.and_eq_true] at f
  rw [List.any_cons, List.any_cons, eqU_of r f.1, any_eqU t f.2]
theorem mem_eqAt {A : Around} {s : Shared} {x : V} {v : Value} (rx : RelV x v) (fx : flatV x = true) : ∀ {xs : List V} {us : List Value}, Vals xs us → xs.all flatV = true → ∀ u ∈ us, SeqAt.EqAt A s u v (eqU x u)
 | _, _, .nil, _ => fun u hu => by cases hu
 | y :: xs, u :: us, .cons r t, f => fun u' hu => by
  rw [List.all_cons, Bool.and_eq_true] at f
  rcases List.mem_cons.mp hu with rfl | hu
  ·rw [eqU_of r f.1]; exact eqAt_V r rx f.1 fx
  ·exact mem_eqAt rx fx t f.2 u' hu
noncomputable def inV (x : V) (xs : List V) : Bool := xs.any fun y => eqV y x
noncomputable def rIn (K : PySem.W.Frag) (neg : Bool) : R2 := fun x y H Q => ∃ p xs, y = .ref p ∧ (SqL K H p xs ∨ SqT K H p xs) ∧ flatV x = true ∧ xs.all flatV = true ∧ Q (.bl (if neg then !inV x xs else inV x xs)) H
theorem op_in_seq : OpR X (compareOp .In) (rIn X.K false) := by
 intro pins s σ H x y v u Q I rx ry h
 obtain ⟨p, xs, rfl, hq, fx, fs, q⟩ := h
 cases ry
 rcases hq with hq | hq
 ·obtain ⟨its, r, pl, hz⟩ := I.list hq
  refine SeqAt.in_listAt (eqU x) pl.isList (fun w hw => mem_eqAt rx fx r fs w (by simpa using hw)) ⟨.bl _, H, I, rfl, ?_⟩
  rw [show its.toArray.any (eqU x) = its.any (eqU x) by simp, any_eqU r fs]
  exact q
 ·obtain ⟨its, r, pl, hz⟩ := I.tuple hq
  refine SeqAt.in_tupleAt (eqU x) pl (fun w hw => mem_eqAt rx fx r fs w (by simpa using hw)) ⟨.bl _, H, I, rfl, ?_⟩
  rw [show its.toArray.any (eqU x) = its.any (eqU x) by simp, any_eqU r fs]
  exact q
theorem call_list_of : CallR X (.type "list") (fun xs H Q => ∃ p ys, xs = [.ref p] ∧ (SqL X.K H p ys ∨ SqT X.K H p ys) ∧ ∀ l, H l = none → Q (.ref l) (upd H l (.lst ys))) := by
 intro pins s σ H xs us Q I r h
 obtain ⟨p, ys, rfl, hq, q⟩ := h
 obtain ⟨u, rfl, rx⟩ := vals1 r
 cases rx
 have fin : ∀ (its : List Value), Vals ys its → ys.length ≤ sizeLine → ∀ (h' : Heap) (c' : Nat), (∀ b o', s.heap.get? b = some o' → h'.get? b = some o') →
   h'.get? s.heap.objs.size = some { cls := .type "list", dict := none, data := .seq its.toArray c', slots := #[] } → EP X pins σ Q (.ref s.heap.objs.size) { s with heap := h' } := fun its r' hz h' c' kp e =>
  ⟨.ref s.heap.objs.size, _, I.laid (t' := s.toks) kp (Nat.le_refl _) (show ObjOk X.prog X.w _ h' _ (.lst ys) from ⟨hz, its, c', r', e⟩), rfl, q _ (I.hok.fresh (Nat.le_refl _))⟩
 rcases hq with hq | hq
 ·obtain ⟨its, r', pl, hz⟩ := I.list hq
  have hlen := r'.length
  obtain ⟨o, ho, hc, n, hd⟩ := pl.isList
  exact call_list_seq p (.inl rfl) ho hc hd (fun h' c' kp e => fin its r' hz h' c' kp e) (by simp only [List.size_toArray] <;> omega)
 ·obtain ⟨its, r', pl, hz⟩ := I.tuple hq
  have hlen := r'.length
  obtain ⟨o, ho, hc, n, hd⟩ := pl
  exact call_list_seq p (.inr rfl) ho hc hd (fun h' c' kp e => fin its r' hz h' c' kp e) (by simp only [List.size_toArray] <;> omega)
noncomputable def tyV (K : PySem.W.Frag) (T : String) (x : V) (H : Hp) : Prop := match x with
 | .str _ => T = "str"
 | .int _ => T = "int"
 | .ref p => (T = "list" ∧ ∃ xs, SqL K H p xs) ∨ (T = "tuple" ∧ ∃ o, K.lookup p = some o ∧ o.cls = .type "tuple" ∧ o.dict = none) ∨
   (T = "dict" ∧ ((∃ kvs, H p = some (.dK kvs)) ∨ ∃ kvs, H p = some (.dT kvs))) ∨ (T = "set" ∧ ∃ S n, H p = some (.set S n))
 | _ => False
theorem tyV_is {pins : List (Addr × Obj)} {σ : St} {H : Hp} {s : Shared} {T : String} {x : V} {v : Value} (I : Inv X pins σ H s) (r : RelV x v) (ty : tyV X.K T x H) :
  s.TypeIs v T ∧ ∀ a, v = .ref a → ∃ ob, s.heap.get? a = some ob ∧ ob.dict = none := by
 cases x with
 | str z =>
  obtain ⟨t, rfl⟩ := r
  cases (show T = "str" from ty)
  exact ⟨typeIs_str s z t, fun _ e => nomatch e⟩
 | int i =>
  obtain ⟨t, rfl⟩ := r
  cases (show T = "int" from ty)
  exact ⟨typeIs_int s i t, fun _ e => nomatch e⟩
 | ref p =>
  cases r
  rcases ty with ⟨rfl, xs, hq⟩ | ⟨rfl, o, hk, hc, hd⟩ | ⟨rfl, hk⟩ | ⟨rfl, S, n, hk⟩
  ·obtain ⟨its, _, pl, _⟩ := I.list hq
   refine ⟨pl.isList.typeIs, fun a e => ?_⟩
   cases e
   obtain ⟨o, n, e, c, hd, _⟩ := pl
   exact ⟨o, e, hd⟩
  ·refine ⟨⟨o, I.kIn p o hk, hc⟩, fun a e => ?_⟩
   cases e
   exact ⟨o, I.kIn _ o hk, hd⟩
  ·have z : ∃ o, s.heap.get? p = some o ∧ o.ExactDict := by
    rcases hk with ⟨kvs, hk⟩ | ⟨kvs, hk⟩
    ·obtain ⟨_, _, _, _, o, _, _, e, ex, _⟩ := I.hok p _ hk
     exact ⟨o, e, ex⟩
    ·obtain ⟨_, _, _, _, o, _, _, e, ex, _⟩ := I.hok p _ hk
     exact ⟨o, e, ex⟩
   obtain ⟨o, e, ex⟩ := z
   refine ⟨⟨o, e, ex.1⟩, fun a e2 => ?_⟩
   cases e2
   exact ⟨o, e, ex.2.1⟩
  ·obtain ⟨o, _, _, _, e, ex, _⟩ := I.hok p _ hk
   refine ⟨⟨o, e, ex.1⟩, fun a e2 => ?_⟩
   cases e2
   exact ⟨o, e, ex.2.1⟩
 | _ => exact False.elim ty
noncomputable def tBM0 (K : PySem.W.Frag) (T : String) (r : V → List V → Hp → VK → Prop) (to : TE) : TE := fun σ H Q => to σ H fun x H1 => tyV K T x H1 ∧ r x [] H1 Q
noncomputable def tBM (K : PySem.W.Frag) (T : String) (r : V → List V → Hp → VK → Prop) (to : TE) (t : TA) : TE := fun σ H Q => to σ H fun x H1 => tyV K T x H1 ∧ t σ H1 fun xs H2 => r x xs H2 Q
variable {o e : Expr} {es : List Expr} {to : TE} {t : TA} {name : Str} {apos cpos : Pos} {T id : String} {r : V → List V → Hp → VK → Prop}
theorem pe_bm0 (pa : PlainAttrs T) (slot : Slot T name id) (hty : typeOf (.builtin id) = pure (.type "method_descriptor")) (hm : MtR X id r) (ho : PE X o to)
  (hbase : attributeBase o name X.env (eval o X.env) = eval o X.env := by rfl) (hline : (apos.endLine == cpos.line) = true := by rfl) : PE X (.Call (.Attribute o name apos) [] [] cpos) (tBM0 X.K T r to) := by
 intro pins s σ H Q I h
 refine wpAny_Call_method0_late hbase hline (thn (ho pins s σ H _ I h) fun v s1 ⟨x, H1, I1, r1, ty, q1⟩ => ?_)
 obtain ⟨h1, h2⟩ := tyV_is I1 r1 ty
 exact ⟨T, id, pa, slot, hty, h1, h2, Calls.callWith_builtin rfl (PySem.evalArgs_none (hm pins s1 σ H1 x [] v [] Q I1 r1 .nil q1))⟩
theorem pe_bm (pa : PlainAttrs T) (slot : Slot T name id) (hty : typeOf (.builtin id) = pure (.type "method_descriptor")) (hm : MtR X id r) (ho : PE X o to) (ha : PA X (e :: es) t)
  (hbase : attributeBase o name X.env (eval o X.env) = eval o X.env := by rfl)
  (hfew : ((backTo cpos (starEach (e :: es) X.env)).all (fun x => !x.1) && (backToKw cpos (keywordEach [] X.env)).all (fun x => x.1.isSome)
   && decide ((e :: es).length + ([] : List Keyword).length + (if ([] : List Keyword).isEmpty then 0 else 1) < 30)) = true := by rfl)
  (hline : (apos.endLine == cpos.line) = true := by rfl) (hs : starEach (e :: es) X.env = (false, eval e X.env) :: starEach es X.env := by rfl) (hplain : (backTo cpos (starEach es X.env)).any (·.1) = false := by rfl) :
  PE X (.Call (.Attribute o name apos) (e :: es) [] cpos) (tBM X.K T r to t) := by
 intro pins s σ H Q I h
 refine wpAny_Call_method_late hbase hfew hline rfl (thn (ho pins s σ H _ I h) fun v s1 ⟨x, H1, I1, r1, ty, q1⟩ => ?_)
 obtain ⟨h1, h2⟩ := tyV_is I1 r1 ty
 refine ⟨T, id, pa, slot, hty, h1, h2, ?_⟩
 have hA := ha cpos pins s1 σ H1 _ I1 q1
 rw [hs] at hA ⊢
 refine Calls.callWith_builtin (by show (false || (backTo cpos (starEach es X.env)).any (·.1)) = false; rw [hplain] <;> rfl) (Calls.evalArgs_plain ?_)
 exact thn hA fun us s2 ⟨vs, H2, I2, r2, q2⟩ => hm pins s2 σ H2 x vs v us Q I2 r1 r2 q2
/- xs.append(e), list.index on a module's tuple .. are MtR facts of 06m -/
end
end L2
namespace L2
open PySem PySem.Spec PyProof.Rows
noncomputable def MtM (X : Cx) (id : String) (r : V → List V → Hp → VK → Prop) : Prop :=
 ∀ (pins : List (Addr × Obj)) (s : Shared) (σ : St) (H : Hp) (x : V) (xs : List V) (v : Value) (us : List Value) (Q : VK), Inv X pins σ H s → RelV x v → Vals xs us → r x xs H Q →
  wpAny (model X.prog X.w) X.A (call (.builtin id) (v :: us)) (EP X pins σ Q) X.xe s
theorem Vals.one : ∀ {x : V} {us : List Value}, Vals [x] us → ∃ u, us = [u] ∧ RelV x u
 | _, _, .cons r .nil => ⟨_, rfl, r⟩
theorem Vals.zero : ∀ {us : List Value}, Vals [] us → us = []
 | _, .nil => rfl
theorem Vals.dropLast {xs : List V} {us : List Value} (h : Vals xs us) : Vals xs.dropLast us.dropLast := by
 induction h with
 | nil => exact .nil
 | cons r t ih =>
  cases t with
  | nil => exact .nil
  | cons q t' => exact .cons r ih
theorem Vals.eraseIdx : ∀ {xs : List V} {us : List Value} (i : Nat), Vals xs us → Vals (xs.eraseIdx i) (us.eraseIdx i)
 | _, _, _, .nil => .nil
 | _, _, 0, .cons _ t => t
 | _, _, i + 1, .cons r t => .cons r (Vals.eraseIdx i t)
theorem Vals.reverse {xs : List V} {us : List Value} (h : Vals xs us) : Vals xs.reverse us.reverse := by
 induction h with
 | nil => exact .nil
 | cons r t ih => rw [List.reverse_cons, List.reverse_cons]; exact Vals.append ih (.cons r .nil)
theorem Vals.rep {xs : List V} {us : List Value} (h : Vals xs us) : ∀ k : Nat, Vals (List.replicate k xs).flatten (List.replicate k us).flatten
 | 0 => .nil
 | k + 1 => by
  rw [List.replicate_succ, List.replicate_succ, List.flatten_cons, List.flatten_cons]
  exact Vals.append h (Vals.rep h k)
theorem erase_last {α : Type} (l : List α) : l.eraseIdx (l.length - 1) = l.dropLast := by
 induction l with
 | nil => rfl
 | cons a r ih =>
  cases r with
  | nil => rfl
  | cons b r =>
   have e : (a :: b :: r).length - 1 = ((b :: r).length - 1) + 1 := by
    have h1 : (a :: b :: r).length = r.length + 2 := rfl
    have h2 : (b :: r).length = r.length + 1 := rfl
    omega
   rw [e, List.eraseIdx_cons_succ, ih]
   all_goals rfl
theorem foldl_rep (its : List Value) : ∀ (k : Nat) (acc : List Value),
  List.foldl (fun x1 x2 => x1 ++ x2) acc.toArray (List.replicate k its.toArray) = (acc ++ (List.replicate k its).flatten).toArray
 | 0, acc => by simp
 | k + 1, acc => by
  have e : acc.toArray ++ its.toArray = (acc ++ its).toArray := by simp
  have e2 : (acc ++ its) ++ (List.replicate k its).flatten = acc ++ (List.replicate (k + 1) its).flatten := by
   rw [List.replicate_succ, List.flatten_cons, List.append_assoc]
  rw [← e2, ← foldl_rep its k (acc ++ its), ← e, List.replicate_succ, List.foldl_cons]
section
variable {X : Cx} {pins : List (Addr × Obj)} {σ : St} {H : Hp} {s : Shared} {l b : Addr} {xs ys zs : List V}
theorem Inv.lset {its its' : List Value} {n : Nat} {f : Array Value → Array Value} {t' : Nat} (I : Inv X pins σ H s) (hH : H l = some (.lst xs))
  (e : s.heap.get? l = some { cls := .type "list", data := .seq its.toArray n }) (hf : f its.toArray = its'.toArray) (hv : Vals ys its') (hz : ys.length ≤ sizeLine) :
  Inv X pins σ (upd H l (.lst ys)) { s with heap := s.heap.update l (Obj.mapSeq f), toks := t' } := by
 have q := PySem.IsL.update e f
 rw [hf] at q
 refine I.write (x := l) (e := l) (by rw [hH]; exact trivial) (.inl rfl) (fun b' u hb hu => (Heap.get?_update_other s.heap (Obj.mapSeq f) (Ne.symm hb)).trans hu) ⟨_, q⟩ ?_
 exact ⟨hz, its', _, hv, q⟩
theorem Inv.lnew {its : List Value} {t' : Nat} (I : Inv X pins σ H s) (hv : Vals ys its) (hz : ys.length ≤ sizeLine) :
  Inv X pins σ (upd H s.heap.objs.size (.lst ys)) { s with heap := s.heap.push { cls := .type "list", data := .seq its.toArray }, toks := t' } :=
 I.laid (fun _ _ q => Heap.get?_push_of_some _ q) (Nat.le_refl _) ⟨hz, its, 0, hv, Heap.get?_push_size _ rfl⟩
theorem Inv.fresh (I : Inv X pins σ H s) : H s.heap.objs.size = none := I.hok.fresh (Nat.le_refl _)
theorem Inv.lstM (I : Inv X pins σ H s) (hH : H l = some (.lst xs)) : xs.length ≤ sizeLine ∧ ∃ (its : List Value) (n : Nat), Vals xs its ∧ xs.length = its.length ∧ s.heap.get? l = some { cls := .type "list", data := .seq its.toArray n } := by
 obtain ⟨z, its, n, r, e⟩ := I.hok l _ hH
 exact ⟨z, its, n, r, r.length, e⟩
theorem notLongL {n : Nat} (h : n ≤ sizeLine) : Builtin.List.listTooLong n = false := by
 unfold Builtin.List.listTooLong
 exact decide_eq_false (by omega)
end
section
variable {X : Cx}
noncomputable def rAppend : V → List V → Hp → VK → Prop := fun x vs H Q => ∃ l xs y, x = .ref l ∧ vs = [y] ∧ H l = some (.lst xs) ∧ xs.length < sizeLine ∧ Q .non (upd H l (.lst (xs ++ [y])))
theorem mt_append : MtM X "list.append" rAppend := by
 intro pins s σ H x vs v us Q I rx rv h
 obtain ⟨l, xs, y, rfl, rfl, hH, hz, q⟩ := h
 cases rx
 obtain ⟨u, rfl, ru⟩ := rv.one
 obtain ⟨z, its, n, r, hl, e⟩ := I.lstM hH
 refine call_meets F.slot_list_append ⟨_, e, rfl⟩ F.entry_list_append (F.args_list_append_2 _ _) (PySem.list_append l its.toArray n u (by rw [List.size_toArray]; omega)) ⟨e, ?_⟩
 refine ⟨.non, _, I.lset (its' := its ++ [u]) hH e (by simp) (r.append (.cons ru .nil)) ?_, rfl, q⟩
 rw [List.length_append, List.length_singleton]
 omega
noncomputable def rExtend : V → List V → Hp → VK → Prop := fun x vs H Q => ∃ l b xs zs, x = .ref l ∧ vs = [.ref b] ∧ H l = some (.lst xs) ∧ H b = some (.lst zs) ∧ xs.length + zs.length ≤ sizeLine ∧ Q .non (upd H l (.lst (xs ++ zs)))
theorem mt_extend : MtM X "list.extend" rExtend := by
 intro pins s σ H x vs v us Q I rx rv h
 obtain ⟨l, b, xs, zs, rfl, rfl, hH, hB, hz, q⟩ := h
 cases rx
 obtain ⟨u, rfl, ru⟩ := rv.one
 cases ru
 obtain ⟨z, its, n, r, hl, e⟩ := I.lstM hH
 obtain ⟨z2, its2, n2, r2, hl2, e2⟩ := I.lstM hB
 have hsz : its.toArray.size + its2.toArray.size ≤ sizeLine := by rw [List.size_toArray, List.size_toArray]; omega
 have hlong : ¬ (!its.toArray.isEmpty && Builtin.List.listTooLong (its.toArray.size + its2.toArray.size)) = true := by
  rw [notLongL hsz, Bool.and_false]
  exact Bool.false_ne_true
 refine call_meets F.slot_list_extend ⟨_, e, rfl⟩ F.entry_list_extend (F.args_list_extend_2 _ _)
  (AutoSeq1.list_extend_list_list_0 l its.toArray n b its2.toArray n2 hlong (by rw [List.size_toArray]; omega) (by omega)) ⟨e, e2, ?_⟩
 refine ⟨.non, _, I.lset (its' := its ++ its2) hH e (by simp) (r.append r2) ?_, rfl, q⟩
 rw [List.length_append]
 omega
noncomputable def rPop : V → List V → Hp → VK → Prop := fun x vs H Q => ∃ l xs y, x = .ref l ∧ vs = [] ∧ H l = some (.lst xs) ∧ xs[xs.length - 1]? = some y ∧ Q y (upd H l (.lst xs.dropLast))
theorem mt_pop : MtM X "list.pop" rPop := by
 intro pins s σ H x vs v us Q I rx rv h
 obtain ⟨l, xs, y, rfl, rfl, hH, hy, q⟩ := h
 cases rx
 have hus := rv.zero
 subst hus
 obtain ⟨z, its, n, r, hl, e⟩ := I.lstM hH
 obtain ⟨u, hu, ru⟩ := r.get hy
 have hy' : its.toArray[its.toArray.size - 1]? = some u := by
  show its.toArray[its.length - 1]? = some u
  rw [← Array.getElem?_toList, ← hl]
  exact hu
 refine call_meets F.slot_list_pop ⟨_, e, rfl⟩ F.entry_list_pop (F.args_list_pop_1 _) (MeetsSeq.list_pop_last l its.toArray n u hy' (by rw [List.size_toArray]; omega)) ⟨e, ?_⟩
 refine ⟨y, _, I.lset (its' := its.dropLast) hH e ?_ r.dropLast ?_, ru, q⟩
 ·show its.toArray.eraseIdxIfInBounds (its.toArray.size - 1) = its.dropLast.toArray
  rw [List.size_toArray, List.eraseIdxIfInBounds_toArray, erase_last]
 ·rw [List.length_dropLast]
  omega
noncomputable def rCat : R2 := fun x y H Q => ∃ l b xs zs, x = .ref l ∧ y = .ref b ∧ H l = some (.lst xs) ∧ H b = some (.lst zs) ∧ xs.length + zs.length ≤ sizeLine ∧ ∀ p, H p = none → Q (.ref p) (upd H p (.lst (xs ++ zs)))
theorem op_cat : OpR X (binaryOp .Add) rCat := by
 intro pins s σ H x y v u Q I rx ry h
 obtain ⟨l, b, xs, zs, rfl, rfl, hH, hB, hz, q⟩ := h
 cases rx
 cases ry
 obtain ⟨z, its, n, r, hl, e⟩ := I.lstM hH
 obtain ⟨z2, its2, n2, r2, hl2, e2⟩ := I.lstM hB
 refine PySem.P.add_list e e2 ?_ (by rw [List.size_toArray, List.size_toArray]; omega)
 have ea : its.toArray ++ its2.toArray = (its ++ its2).toArray := by simp
 rw [ea]
 exact ⟨.ref _, _, I.lnew (t' := s.toks) (r.append r2) (by rw [List.length_append]; omega), rfl, q _ I.fresh⟩
noncomputable def rRep : R2 := fun x y H Q => ∃ l k xs, x = .ref l ∧ y = .int k ∧ H l = some (.lst xs) ∧ -(2 ^ 63) ≤ k ∧ k < 2 ^ 63 ∧ xs.length * k.toNat ≤ sizeLine ∧
 ∀ p, H p = none → Q (.ref p) (upd H p (.lst (List.replicate k.toNat xs).flatten))
theorem len_rep {α : Type} (xs : List α) (k : Nat) : (List.replicate k xs).flatten.length = k * xs.length := by
 induction k with
 | zero => simp
 | succ k ih => rw [List.replicate_succ, List.flatten_cons, List.length_append, ih, Nat.succ_mul, Nat.add_comm]
theorem op_rep : OpR X (binaryOp .Mult) rRep := by
 intro pins s σ H x y v u Q I rx ry h
 obtain ⟨l, k, xs, rfl, rfl, hH, h1, h2, hz, q⟩ := h
 cases rx
 obtain ⟨t, rfl⟩ := ry
 obtain ⟨z, its, n, r, hl, e⟩ := I.lstM hH
 have hlen : its.toArray.size * k.toNat ≤ sizeLine := by rw [List.size_toArray, ← hl]; exact hz
 have hcap : ¬ its.toArray.size * k.toNat > (2 ^ 63 - 1) / 8 := by
  have : (sizeLine : Nat) ≤ (2 ^ 63 - 1) / 8 := by decide
  omega
 have hfit : ¬ (!Builtin.List.listFitsIndex k) = true := by
  rw [fitsIndex_both h1 h2]
  exact Bool.false_ne_true
 have hlong : ¬ Builtin.List.listTooLong (its.toArray.size * k.toNat) = true := by
  rw [notLongL hlen]
  exact Bool.false_ne_true
 have hnew : List.foldl (fun x1 x2 => x1 ++ x2) #[] (List.replicate (if its.toArray.isEmpty = true then 0 else k.toNat) its.toArray) = (List.replicate k.toNat its).flatten.toArray := by
  have f0 : ∀ m : Nat, List.foldl (fun x1 x2 => x1 ++ x2) #[] (List.replicate m its.toArray) = (List.replicate m its).flatten.toArray := fun m => by
   have := foldl_rep its m []
   rw [List.nil_append] at this
   exact this
  rw [f0]
  cases its with
  | nil => simp
  | cons a r' => rw [if_neg (by simp)]
 refine wpAny_binaryOp_repeat_ref (T := "list") (U := "int") (by decide) ⟨_, e, rfl⟩ (fun s' => typeIs_int s' k t) noFill_list_mul F.fills_int_mul F.slot_int_rmul repeat_list F.slot_int_index.lookup
  (call_meets F.slot_int_rmul (typeIs_int s k t) F.entry_int_rmul (F.args_int_rmul_2 _ _) (int___rmul___int_list k t l its.toArray n)
   ⟨e, rfl, ⟨_, e, rfl⟩, call_meets F.slot_list_mul ⟨_, e, rfl⟩ F.entry_list_mul (F.args_list_mul_2 _ _) (AutoListH.list___mul___list_int_3 l its.toArray n k t hfit hcap hlong) ⟨e, ?_⟩⟩)
 rw [hnew]
 exact ⟨.ref _, _, I.lnew (t' := s.toks) (r.rep k.toNat) (by rw [len_rep, Nat.mul_comm]; exact hz), rfl, q _ I.fresh⟩
end
section
variable {prog : Program} {w : World} {A : Around} {E : Value → Shared → Prop} {s : Shared}
end
section
variable {X : Cx}
end
end L2
namespace Att
open PySem PySem.W PySem.Calls PyProof.Rows
theorem ints_of_wellAll {P : Params} {h : Heap} : ∀ (ns : List Int) (vs : List Value), WellAll P h vs (ns.map WData.int) → IntsAre vs ns := by
 intro ns
 induction ns with
 | nil =>
  intro vs w
  rw [List.map_nil] at w
  cases w
  exact .nil
 | cons n ns ih =>
  intro vs w
  rw [List.map_cons] at w
  cases w with
  | cons a b =>
   cases a
   exact .cons _ _ (ih _ b)
theorem script_of {l : OpenLaw} {n : Nat} (hn : l.most = some n) {P : Params} {h : Heap} {args : List WData} {vals : List Value}
  (hpre : l.row.toRowW.claim.pre args = true) (hwl : WellAll P h vals args) :
  ∃ a vs ns, vals = [Value.ref a] ∧ args = [WData.list (ns.map WData.int)] ∧ h.get? a = some { cls := .type "list", data := .seq vs.toArray } ∧ IntsAre vs ns ∧ ns.length ≤ n := by
 have hsh : WShape.hasAll [] args [.list .int] = true := (pre_splitW hpre).1
 have hc : l.pre.holds [] { args := args } = true := (pre_splitW hpre).2
 obtain ⟨d, r, rfl, h1, h2⟩ := hasAllW_cons hsh
 obtain rfl := hasAllW_nil h2
 obtain ⟨xs, rfl, h3⟩ := hasW_list h1
 obtain ⟨ns, rfl⟩ := items_int h3
 have hlen : ns.length ≤ n := by
  unfold OpenLaw.pre at hc
  have h4 : (WTm.not (.lt (.lit (.int (n : Int))) (.len (.arg 0)))).holds [] { args := [.list (ns.map .int)] } = true := by
   have h4 := (holds_andW hc).1
   rw [hn] at h4
   exact h4
  have h5 := condW_of h4 (w_not (w_lt w_lit (w_len_list (w_arg rfl))))
  rw [List.length_map] at h5
  refine Nat.le_of_not_lt fun q => ?_
  have q' : (n : Int) < ((ns.length : Nat) : Int) := by omega
  first
   | (rw [decide_eq_true q'] at h5; exact absurd h5 (by decide))
   | (simp at h5; omega)
 cases hwl with
 | cons w1 w2 =>
  cases w2
  cases w1 with
  | list ho hall => exact ⟨_, _, ns, rfl, rfl, ho, ints_of_wellAll ns _ hall, hlen⟩
theorem post_true (l : OpenLaw) (args : List WData) : l.row.toRowW.claim.post args (.bool true) args = true :=
 postW_of (r := l.row.toRowW) (X := (true == true))
  (show WShape.has [] (.bool true) .bool = true by first | rfl | decide | simp [WShape.has, WShape.arms, WShape.armsAll])
  (show (WTm.eq .res (.lit (.bool true))).value [] { args := args, res := some (.bool true), after := args } = some (.bool (true == true)) from w_eq_bool (w_res rfl) w_lit) rfl
section
variable {prog : Program} {w : World} {A : Around} {E : Value → Shared → Prop} {s : Shared} {K : Frag}
end
end Att
namespace L2
open PySem PySem.Spec PyProof.Rows
theorem vals_ints : ∀ {vs : List Value} {ns : List Int}, IntsAre vs ns → Vals (ns.map V.int) vs
 | _, _, .nil => .nil
 | _, _, .cons n t h => .cons ⟨t, rfl⟩ (vals_ints h)
noncomputable def Only (H : Hp) : Prop := ∀ b, H b = none ∨ ∃ o xs, H b = some (.frz o (.lst xs))
theorem law_call {P : Program} {w : World} {K : PySem.W.Frag} {mg mb : Str → Option Value} {CX : CXT} {k : Nat} {fa a : Addr} {fd : FuncData} {x : Str} {sp : Sp} {s₁ : Shared} {vs : List Value} {ns : List Int}
  (KX : K.In s₁.heap) (hns : s₁.heap.Ns mainGlobals mg) (hb : s₁.heap.Ns builtinsNs mb) (hbb : ∀ x : Str, x ≠ "__name__" → mb x = bootBuiltins x) (hlim : s₁.heap.NoLimit) (hg : s₁.gens = #[])
  (ha : s₁.heap.get? a = some { cls := .type "list", data := .seq vs.toArray }) (hi : IntsAre vs ns) (hl : ns.length ≤ sizeLine) (hr : Room k callerA)
  (F : ∀ base : Heap, K.In base → base.Ns mainGlobals mg → FnOk P w K mg base CX k fa fd [x] sp) (hbind : ∀ (s : Shared) (u : Value), BindsTo s fd ⟨[u], []⟩ [(x, u)])
  (hsp : ∀ H : Hp, Only H → SqL K H a (ns.map V.int) → sp [.ref a] H (fun v _ => v = .bl true) fun _ _ _ => False)
  (hCX : ∀ H e s', CX [] H s₁ (fun _ _ _ => False) e s' → False) :
  codeAny (model P w) callerA (.call (.ref fa) ⟨[.ref a], []⟩) (fun r s' => r = .ok (.ret (.bool true)) ∧ OldK s₁.heap s'.heap ∧ s'.os = s₁.os ∧ AllBare s'.gens) s₁ := by
 have rv := vals_ints hi
 have lenV := hi.length
 -- from an abstract heap in which nothing but the script may be tracked
 have core : ∀ H : Hp, Only H → SqL K H a (ns.map V.int) → HOk P w H s₁.heap → (∀ b, H b ≠ none → b = a) → (H a ≠ none → K.lookup a = none) →
   codeAny (model P w) callerA (.call (.ref fa) ⟨[.ref a], []⟩) (fun r s' => r = .ok (.ret (.bool true)) ∧ OldK s₁.heap s'.heap ∧ s'.os = s₁.os ∧ AllBare s'.gens) s₁ := by
  intro H hO hS hok hA hK
  have base_of : ∀ {b : Addr} {o : Obj}, s₁.heap.get? b = some o → H b = none → (hidT s₁.heap H).get? b = some o := fun e n => hidT_get e n
  have noA : ∀ {b : Addr} {o : Obj} {es : Array DictEntry} {ep : Nat}, s₁.heap.get? b = some o → o.data = .dict es ep → H b = none := fun {b o es ep} e d => by
   cases q : H b with
   | none => rfl
   | some u =>
    have e' : b = a := hA b (by rw [q]; simp)
    subst e'
    rw [ha] at e; cases e
    have d' : Data.seq vs.toArray _ = Data.dict es ep := d
    cases d'
  have nsK : ∀ {b : Addr} {m : Str → Option Value}, s₁.heap.Ns b m → (hidT s₁.heap H).Ns b m := fun {b m} ⟨o, es, ep, e, d, r⟩ => ⟨o, es, ep, base_of e (noA e d), d, r⟩
  have hKb : K.In (hidT s₁.heap H) := fun b o e => base_of (KX b o e) (by
   cases q : H b with
   | none => rfl
   | some u =>
    have e' : b = a := hA b (by rw [q]; simp)
    subst e'
    rw [hK (by rw [q]; simp)] at e; cases e)
  have hM : Mod K mg (hidT s₁.heap H) := ⟨hKb, nsK hns, ⟨mb, nsK hb, hbb⟩, let ⟨mc, h1, h2⟩ := hlim; ⟨mc, nsK h1, h2⟩⟩
  have e0 : Env0 P w K mg (hidT s₁.heap H) callerA [] s₁ H := ⟨rfl, hM, fun b o e => of_hidT e, Nat.le_of_eq (hidT_size _ _), trivial, fun b hb => absurd (show b ∈ ([] : List Addr) from hb) (by simp), hok, .of_eq hg⟩
  refine codeAny_mono ((F _ hKb (nsK hns)).run callerA [] s₁ H ⟨[.ref a], []⟩ [.ref a] [.ref a] _ _ hr e0 (hbind s₁ (.ref a)) (.cons rfl .nil) (hsp H hO hS)) fun r s' h => ?_
  cases r with
  | error e => exact (hCX H e s' h).elim
  | ok fl =>
   cases fl with
   | next => exact False.elim h
   | brk => exact False.elim h
   | cont => exact False.elim h
   | ret u =>
    obtain ⟨v, H', os, bare, un, hok', r', q⟩ := h
    have q' : v = .bl true := q
    subst q'
    obtain rfl : u = Value.bool true := r'
    refine ⟨rfl, OldK.of_keep fun b o e => ?_, os, bare⟩
    cases q : H b with
    | none => exact un.keep b o e q (by intro z; exact absurd (show b ∈ ([] : List Addr) from z) (by simp)) (by simp)
    | some u =>
     rcases hO b with z | ⟨ob, xs, z⟩
     ·rw [q] at z; cases z
     ·have z2 := un.frzs b ob _ z
      obtain ⟨e1, _⟩ := hok b _ z
      obtain ⟨e2, _⟩ := hok' b _ z2
      rw [e] at e1; cases e1
      exact e2
 cases hk : K.lookup a with
 | some o =>
  -- the script is one of the module's own objects
  have e := KX a o hk
  rw [ha] at e
  cases e
  refine core (fun _ => none) (fun _ => .inl rfl) (.inr ⟨_, vs.toArray, _, hk, rfl, rfl, rfl, by rw [List.size_toArray, lenV]; exact hl, by simpa using rv⟩) (fun b u z => by have z' : (none : Option HO) = some u := z; cases z') (fun b z => absurd rfl z) fun z => absurd rfl z
 | none =>
  refine core (fun b => if b = a then some (.frz { cls := .type "list", data := .seq vs.toArray } (.lst (ns.map V.int))) else none) (fun b => ?_) (.inl (.inr ⟨{ cls := .type "list", data := .seq vs.toArray }, if_pos rfl⟩)) (fun b u z => ?_) (fun b z => ?_) fun _ => hk
  ·by_cases hb : b = a
   ·exact .inr ⟨_, _, if_pos hb⟩
   ·exact .inl (if_neg hb)
  ·by_cases hb : b = a
   ·have z' := (if_pos hb).symm.trans z
    cases z'
    subst hb
    exact ⟨ha, by rw [List.length_map]; exact hl, vs, _, rv, ha⟩
   ·have z' := (if_neg hb).symm.trans z
    cases z'
  ·by_cases hb : b = a
   ·exact hb
   ·exact absurd (if_neg hb) z
end L2
namespace L2
open PySem PySem.Spec PyProof.Rows
noncomputable abbrev KOf {K : PySem.W.Frag} {h : Heap} (_ : K.In h) : PySem.W.Frag := K
end L2
/- THE LAST THEOREM (shape; LID, My.* are yours):
   My.Adr: a structure of the addresses that your layer names (classes, functions); My.Txt K t: a structure (Prop) of the equations over K;
   My.txt_mk : {K} {implicit addresses ..} (e1 : nsIn K mainGlobals "law" = some (some (.ref f))) (e2 : K.lookup f = some ⟨oc, od, .func (fnOf "law" "law" params body scope dV kV doc pm an cdv ct), sl⟩) (e3 : codeIn K cdv "law" = true) .. : ∃ t, My.Txt K t
set_option maxRecDepth 100000 in
set_option maxHeartbeats 0 in
theorem PySem.Challenge.cw_LID_holds : PySem.Challenge.rw_LID.Holds := by
 w_on; o_law; k_head; (case hw => w_witness2)
 k_fill
 refine L2.walk_of (l := PySem.Challenge.rw_LID) (n := 63) (k := 40) (x := "script") (CX := fun w => ..) (sp := fun _ => My.sp_law) rfl (by decide) rfl ⟨rfl, by decide, by decide⟩ (fun w h Y => PySem.W.kIn_of Y) ?F ?S ?C
 case F =>
  intro w mg fa h KX G hmg
  have T : ∃ t, My.Txt (L2.KOf KX) t := by
   dsimp only [L2.KOf]                          -- K must stand as «<heap const> w.params» for k_is
   refine' My.txt_mk ?e1 ?e2 ?e3 ..
   (case e1 => PySem.W.k_is)                    -- in the order: a name -> its address -> its object -> its parts
   (case e2 => PySem.W.k_is)
   ..
  obtain ⟨t, T⟩ := T
  have e0 := hmg.symm.trans (PySem.W.mg_of KX G T.law)
  cases e0                                       -- fa is the law's own address
  exact ⟨_, fun s u => .of_eq rfl, fun base kb nb => My.law_fn T kb nb⟩     -- if «.of_eq rfl» comes too early: refine' ⟨_, ?b, fun base kb nb => My.law_fn T kb nb⟩; exact fun s u => .of_eq rfl
 case S => exact fun w H a ns hl hO hS => ..
 case C => exact ..
(the tactic k_is has no namespace: write k_is) -/
namespace L2
open PySem PySem.Spec PyProof.Rows
noncomputable def inClass (s : Stmt) (j : Nat) : Stmt := match s with
 | .ClassDef _ _ _ body _ _ _ _ _ _ _ => body.getD j (.Pass ⟨0, 0, 0, 0⟩)
 | _ => .Pass ⟨0, 0, 0, 0⟩
noncomputable def defArgs (s : Stmt) : Arguments := match s with
 | .FunctionDef _ a _ _ _ _ _ _ _ _ => a
 | _ => { posonlyargs := [], args := [], vararg := none, kwonlyargs := [], kw_defaults := [], kwarg := none, defaults := [] }
noncomputable def defBody (s : Stmt) : List Stmt := match s with
 | .FunctionDef _ _ b _ _ _ _ _ _ _ => b
 | _ => []
noncomputable def defScope (s : Stmt) : Scope := match s with
 | .FunctionDef _ _ _ _ _ _ sc _ _ _ => sc
 | _ => { kind := .function, names := [], isGenerator := false, isCoroutine := false }
noncomputable abbrev CX0 : CXT := fun _ _ _ _ _ _ => False
noncomputable abbrev E0 : XK := fun _ _ _ => False
theorem pass0 {X : Cx} : Passes CX0 X E0 := fun _ _ _ _ _ _ _ h => h.elim
structure Fun (K : PySem.W.Frag) (x qual : Str) (st : Stmt) (f : Addr) (fd : FuncData) : Prop where
 ex : ∃ (oc : Value) (od : Option Addr) (kV doc pm : Value) (an : Option Addr) (cdv ct : Value) (osl : Array (Option Value)),
  fd = PySem.W.fnOf x qual (defArgs st) (defBody st) (defScope st) .none kV doc pm an cdv ct ∧ K.lookup f = some ⟨oc, od, .func fd, osl⟩ ∧ PySem.W.codeIn K cdv qual = true
 kp : PySem.W.keepIn K (.ref f) = true
section
variable {P : Program} {w : World} {K : PySem.W.Frag} {mg : Str → Option Value} {base : Heap}
theorem Fun.ok {x qual : Str} {st : Stmt} {f : Addr} {fd : FuncData} {N ps : List Str} {k : Nat} {sp : Sp} (F : Fun K x qual st f fd) (S : FnScope N ps (defScope st)) (len : ∀ vs H Q E, sp vs H Q E → vs.length = ps.length)
  (hbody : ∀ (cdv : Value) (A : Around) (outer : List Env) (s : Shared) (H : Hp) (vs : List V) (Q : VK) (E : XK), Room k (A.deeper (envOfC qual (defScope st) s.heap.objs.size f cdv)) → sp vs H Q E →
   ∃ t, PSs (cxOf CX0 P w K mg base N qual (defScope st) f cdv A outer s H E).nox (defBody st) t ∧ t { nx := fun _ H' => Q .non H', rt := Q } (start N vs) H) : FnOk P w K mg base CX0 (k + 1) f fd ps sp := by
 obtain ⟨oc, od, kV, doc, pm, an, cdv, ct, osl, rfl, lk, hcd⟩ := F.ex
 refine fn_of lk hcd S len fun A outer s H vs Q E hr hsp => ?_
 obtain ⟨t, h, q⟩ := hbody cdv A outer s H vs Q E hr hsp
 exact ⟨t, h.nox, q⟩
theorem Fun.binds {x qual : Str} {st : Stmt} {f : Addr} {fd : FuncData} {ps : List Str} (F : Fun K x qual st f fd)
  (h : ∀ (kV doc pm : Value) (an : Option Addr) (cdv ct : Value) (us : List Value), us.length = ps.length → bindArgs (PySem.W.fnOf x qual (defArgs st) (defBody st) (defScope st) .none kV doc pm an cdv ct) ⟨us, []⟩ = pure (ps.zip us)) : Binds K fd ps [] := by
 obtain ⟨oc, od, kV, doc, pm, an, cdv, ct, osl, rfl, lk, hcd⟩ := F.ex
 exact .all (h kV doc pm an cdv ct)
theorem fun_mk {x qual : Str} {st : Stmt} {f : Addr} {oc : Value} {od an : Option Addr} {osl : Array (Option Value)} {kV doc pm cdv ct : Value} (l : K.lookup f = some ⟨oc, od, .func (PySem.W.fnOf x qual (defArgs st) (defBody st) (defScope st) .none kV doc pm an cdv ct), osl⟩)
  (c : PySem.W.codeIn K cdv qual = true) (k : PySem.W.keepIn K (.ref f) = true) : Fun K x qual st f (PySem.W.fnOf x qual (defArgs st) (defBody st) (defScope st) .none kV doc pm an cdv ct) := ⟨⟨oc, od, kV, doc, pm, an, cdv, ct, osl, rfl, l, c⟩, k⟩
end
theorem hu_of {A : Around} {k : Nat} (hr : Room k A) : A.units + 1 < cLine := Nat.lt_of_le_of_lt (Nat.add_le_add_left (by decide : 1 ≤ 64) _) hr.units
section
variable {X : Cx}
theorem pv (i : Nat) {x : Str} {pos : Pos} (hN : X.N[i]? = some x := by rfl) (hv : Vis X.env.scope x := by first | exact Or.inl rfl | exact Or.inr (Or.inl rfl) | exact Or.inr (Or.inr rfl)) (hd : (x == ("__debug__" : Str)) = false := by decide)
  (hcd : (x == ("__classdict__" : Str)) = false := by decide) : PE X (.Name x pos) (tVar i) := pe_var hN hv hd hcd
end
theorem iteF {A B : Prop} (h : B) : if false = true then A else B := by
 rw [if_neg Bool.false_ne_true]
 exact h
theorem iteT {A B : Prop} (h : A) : if true = true then A else B := by
 rw [if_pos rfl]
 exact h
noncomputable def Same (H H' : Hp) : Prop := ∀ b o, H b = some o → H' b = some o
theorem Same.refl (H : Hp) : Same H H := fun _ _ h => h
theorem Same.trans {H H1 H2 : Hp} (a : Same H H1) (b : Same H1 H2) : Same H H2 := fun c o h => b c o (a c o h)
theorem Same.free {H H' : Hp} (e : Same H H') {l : Addr} (h : H' l = Option.none) : H l = Option.none := by
 cases q : H l with
 | none => rfl
 | some o =>
  rw [e l o q] at h
  cases h
theorem Same.seq {K : PySem.W.Frag} {H H' : Hp} {a : Addr} {xs : List V} (e : Same H H') (h : SqL K H a xs) : SqL K H' a xs := by
 rcases h with (h | ⟨o, h⟩) | h
 ·exact .inl (.inl (e _ _ h))
 ·exact .inl (.inr ⟨o, e _ _ h⟩)
 ·exact .inr h
end L2
namespace L2
open PySem PySem.Spec PyProof.Rows
section
variable {κ : Type} [DecidableEq κ]
noncomputable def valV (kvs : List (κ × V)) (k : κ) : Option V := (kvs.find? fun kv => decide (kv.1 = k)).map (·.2)
noncomputable def putK (kvs : List (κ × V)) (k : κ) (v : V) : List (κ × V) :=
 if (kvs.any fun kv => decide (kv.1 = k)) = true then kvs.map (fun kv => if kv.1 = k then (kv.1, v) else kv) else kvs ++ [(k, v)]
noncomputable def dropK (kvs : List (κ × V)) (k : κ) : List (κ × V) := kvs.filter fun kv => decide (kv.1 ≠ k)
theorem valV_pos {p : κ × V} {r : List (κ × V)} {k : κ} (e : p.1 = k) : valV (p :: r) k = some p.2 := by simp [valV, List.find?_cons, e]
theorem valV_neg {p : κ × V} {r : List (κ × V)} {k : κ} (e : ¬ p.1 = k) : valV (p :: r) k = valV r k := by simp [valV, List.find?_cons, e]
theorem valV_any (k : κ) : ∀ kvs : List (κ × V), (kvs.any fun kv => decide (kv.1 = k)) = (valV kvs k).isSome
 | [] => rfl
 | p :: r => by
  rw [List.any_cons]
  by_cases e : p.1 = k
  ·simp only [valV_pos e, decide_eq_true e, Bool.true_or, Option.isSome_some]
  ·rw [valV_neg e, decide_eq_false e, Bool.false_or]; exact valV_any k r
theorem length_putK (kvs : List (κ × V)) (k : κ) (v : V) : (putK kvs k v).length ≤ kvs.length + 1 := by
 unfold putK
 split
 ·rw [List.length_map]; omega
 ·rw [List.length_append, List.length_cons, List.length_nil]; omega
theorem putK_new {kvs : List (κ × V)} {k : κ} (v : V) (h : valV kvs k = none) : putK kvs k v = kvs ++ [(k, v)] := by
 unfold putK
 rw [valV_any, h]
 exact if_neg (by decide)
theorem RelO.isSome_eq {o : Option V} {u : Option Value} (r : RelO o u) : o.isSome = u.isSome := by
 cases o with
 | none => cases u with
  | none => rfl
  | some _ => exact (show False from r).elim
 | some _ => cases u with
  | none => exact (show False from r).elim
  | some _ => rfl
theorem RelO.getD {o : Option V} {u : Option Value} {d : V} {d' : Value} (r : RelO o u) (rd : RelV d d') : RelV (o.getD d) (u.getD d') := by
 cases o with
 | none => cases u with
  | none => exact rd
  | some _ => exact (show False from r).elim
 | some _ => cases u with
  | none => exact (show False from r).elim
  | some _ => exact r
theorem KV.val {kvs : List (κ × V)} {vs : List (κ × Value)} (r : KV kvs vs) (k : κ) : RelO (valV kvs k) (valueAt vs k) := by
 unfold KV at r
 induction r with
 | nil => exact True.intro
 | @cons p q ps qs h t ih =>
  obtain ⟨h1, h2⟩ := h
  by_cases e : p.1 = k
  ·have e' : q.1 = k := h1.symm.trans e
   have b : valueAt (q :: qs) k = some q.2 := by simp [valueAt, List.find?_cons, e']
   rw [valV_pos e, b]; exact h2
  ·have e' : ¬ q.1 = k := fun z => e (h1.trans z)
   have b : valueAt (q :: qs) k = valueAt qs k := by simp [valueAt, List.find?_cons, e']
   rw [valV_neg e, b]; exact ih
theorem KV.any {kvs : List (κ × V)} {vs : List (κ × Value)} (r : KV kvs vs) (k : κ) : (kvs.any fun kv => decide (kv.1 = k)) = vs.any fun kv => decide (kv.1 = k) := by
 unfold KV at r
 induction r with
 | nil => rfl
 | cons h t ih => rw [List.any_cons, List.any_cons, ih, h.1]
theorem KV.repl {kvs : List (κ × V)} {vs : List (κ × Value)} (r : KV kvs vs) (k : κ) {y : V} {u : Value} (ry : RelV y u) :
  KV (kvs.map fun kv => if kv.1 = k then (kv.1, y) else kv) (vs.map fun kv => if kv.1 = k then (kv.1, u) else kv) := by
 unfold KV at r ⊢
 induction r with
 | nil => exact .nil
 | @cons p q ps qs h t ih =>
  rw [List.map_cons, List.map_cons]
  refine .cons ?_ ih
  obtain ⟨h1, h2⟩ := h
  by_cases e : p.1 = k
  ·rw [if_pos e, if_pos (h1.symm.trans e)]; exact ⟨h1, ry⟩
  ·rw [if_neg e, if_neg (fun z => e (h1.trans z))]; exact ⟨h1, h2⟩
theorem KV.put {kvs : List (κ × V)} {vs : List (κ × Value)} (r : KV kvs vs) (k : κ) {y : V} {u : Value} (ry : RelV y u) : KV (putK kvs k y) (stored vs k u) := by
 unfold putK stored
 rw [r.any k]
 by_cases e : (vs.any fun kv => decide (kv.1 = k)) = true
 ·rw [if_pos e, if_pos e]; exact r.repl k ry
 ·rw [if_neg e, if_neg e]; exact Paired.snoc r ⟨rfl, ry⟩
theorem KV.drop {kvs : List (κ × V)} {vs : List (κ × Value)} (r : KV kvs vs) (k : κ) : KV (dropK kvs k) (without vs k) := by
 unfold KV at r ⊢
 unfold dropK without
 induction r with
 | nil => exact .nil
 | @cons p q ps qs h t ih =>
  obtain ⟨h1, h2⟩ := h
  rw [List.filter_cons, List.filter_cons]
  by_cases e : p.1 = k
  ·have a : ¬ decide (p.1 ≠ k) = true := by simp [e]
   have b : ¬ decide (q.1 ≠ k) = true := by simp [h1.symm.trans e]
   rw [if_neg a, if_neg b]; exact ih
  ·have e' : ¬ q.1 = k := fun z => e (h1.trans z)
   have a : decide (p.1 ≠ k) = true := by simp [e]
   have b : decide (q.1 ≠ k) = true := by simp [e']
   rw [if_pos a, if_pos b]; exact .cons ⟨h1, h2⟩ ih
theorem KV.keys {kvs : List (κ × V)} {vs : List (κ × Value)} (r : KV kvs vs) : kvs.map (·.1) = vs.map (·.1) := by
 unfold KV at r
 induction r with
 | nil => rfl
 | cons h t ih => rw [List.map_cons, List.map_cons, ih, h.1]
theorem KV.length {kvs : List (κ × V)} {vs : List (κ × Value)} (r : KV kvs vs) : kvs.length = vs.length := Paired.length r
end
theorem kV_is {P : Program} {w : World} {k : Key} {u : Value} (r : RelV (kV k) u) : (mixKind P w).is k u = true := by
 cases k with
 | inl i => obtain ⟨t, e⟩ := (show ∃ t, u = Value.int i t from r); subst e; exact mixKind_int P w i t
 | inr x => obtain ⟨t, e⟩ := (show ∃ t, u = Value.str x t from r); subst e; exact mixKind_str P w x t
theorem items_are {P : Program} {w : World} : ∀ {ks : List Key} {us : List Value}, Vals (ks.map kV) us → ItemsAre (mixKind P w) ks us
 | [], _, r => by rw [List.map_nil] at r; cases r; exact .nil
 | k :: ks, _, r => by
  rw [List.map_cons] at r
  cases r with
  | cons h t => exact .cons (kV_is h) (items_are t)
noncomputable abbrev KT (H : Hp) : List (List Key × V) → List (List Key × Addr × Value) → Prop := Paired fun p q => p.1 = q.1 ∧ H q.2.1 = some (.tup (p.1.map kV)) ∧ RelV p.2 q.2.2
theorem KT.val {H : Hp} {kvs : List (List Key × V)} {xs : List (List Key × Addr × Value)} (r : KT H kvs xs) (k : List Key) : RelO (valV kvs k) ((atKey xs k).map (·.2)) := by
 induction r with
 | nil => exact True.intro
 | @cons p q ps qs h t ih =>
  obtain ⟨h1, _, h2⟩ := h
  by_cases e : p.1 = k
  ·have e' : q.1 = k := h1.symm.trans e
   have b : atKey (q :: qs) k = some q.2 := by simp [atKey, List.find?_cons, e']
   rw [valV_pos e, b]; exact h2
  ·have e' : ¬ q.1 = k := fun z => e (h1.trans z)
   have b : atKey (q :: qs) k = atKey qs k := by simp [atKey, List.find?_cons, e']
   rw [valV_neg e, b]; exact ih
theorem KT.repl {H : Hp} {kvs : List (List Key × V)} {xs : List (List Key × Addr × Value)} (r : KT H kvs xs) (k : List Key) {y : V} {u : Value} (ry : RelV y u) :
  KT H (kvs.map fun kv => if kv.1 = k then (kv.1, y) else kv) (xs.map (putAt k u)) := by
 induction r with
 | nil => exact .nil
 | @cons p q ps qs h t ih =>
  rw [List.map_cons, List.map_cons]
  refine .cons ?_ ih
  obtain ⟨h1, h2, h3⟩ := h
  unfold putAt
  by_cases e : p.1 = k
  ·rw [if_pos e, if_pos (h1.symm.trans e)]; exact ⟨h1, h2, ry⟩
  ·rw [if_neg e, if_neg (fun z => e (h1.trans z))]; exact ⟨h1, h2, h3⟩
theorem KT.put {H : Hp} {kvs : List (List Key × V)} {xs : List (List Key × Addr × Value)} (r : KT H kvs xs) (k : List Key) {b : Addr} {y : V} {u : Value} (hb : H b = some (.tup (k.map kV))) (ry : RelV y u) :
  KT H (putK kvs k y) (storedH xs k b u) := by
 have e : (kvs.any fun kv => decide (kv.1 = k)) = (atKey xs k).isSome := by
  rw [valV_any, (r.val k).isSome_eq, Option.isSome_map]
 unfold putK storedH
 rw [e]
 by_cases q : (atKey xs k).isSome = true
 ·rw [if_pos q, if_pos q]; exact r.repl k ry
 ·rw [if_neg q, if_neg q]; exact Paired.snoc r ⟨rfl, hb, ry⟩
theorem KT.keeps {H H' : Hp} {kvs : List (List Key × V)} {xs : List (List Key × Addr × Value)} (r : KT H kvs xs) (ht : ∀ b ys, H b = some (.tup ys) → H' b = some (.tup ys)) : KT H' kvs xs :=
 Paired.mapP r fun _ _ z => ⟨z.1, ht _ _ z.2.1, z.2.2⟩
section
variable {P : Program} {w : World} {H : Hp} {h : Heap} {a : Addr}
theorem rd_of {u : HO} (ok : HOk P w H h) (e : Rd H a u) : ObjOk P w H h a u := e.ok ok
theorem dk_rd {kvs : List (Key × V)} (ok : HOk P w H h) (e : Rd H a (.dK kvs)) : kvs.length ≤ sizeLine ∧ (a == sysModules) = false ∧ ∃ vs, KV kvs vs ∧ h.DictOf (mixKind P w) a vs :=
 show ObjOk P w H h a (.dK kvs) from rd_of ok e
theorem dk_of {kvs : List (Key × V)} (ok : HOk P w H h) (e : H a = some (.dK kvs)) : kvs.length ≤ sizeLine ∧ (a == sysModules) = false ∧ ∃ vs, KV kvs vs ∧ h.DictOf (mixKind P w) a vs := dk_rd ok (.inl e)
theorem key_of {ks : List Key} (ok : HOk P w H h) (e : H a = some (.tup (ks.map kV))) : (tupleKind (mixKind P w)).is h ks a := by
 obtain ⟨_, its, r, o, h1, h2, n, h3⟩ := (show ObjOk P w H h a (.tup (ks.map kV)) from ok a _ e)
 exact ⟨o, its.toArray, n, h1, h2, h3, by simpa using items_are r⟩
theorem dt_rd {kvs : List (List Key × V)} (ok : HOk P w H h) (e : Rd H a (.dT kvs)) : kvs.length ≤ sizeLine ∧ (a == sysModules) = false ∧
  ∃ xs, KT H kvs xs ∧ h.DictOfH (tupleKind (mixKind P w)) a xs := by
 obtain ⟨z, y, xs, r, o, es, ep, h1, h2, h3, h4, h5⟩ := (show ObjOk P w H h a (.dT kvs) from rd_of ok e)
 refine ⟨z, y, xs, r, o, es, ep, h1, h2, h3, h4, fun x hx => ?_, h5⟩
 have all : ∀ {l : List (List Key × V)} {m : List (List Key × Addr × Value)}, KT H l m → ∀ x ∈ m, (tupleKind (mixKind P w)).is h x.1 x.2.1 := by
  intro l m q
  induction q with
  | nil => intro x hx; exact nomatch hx
  | @cons p q ps qs hq t ih =>
   intro x hx
   rcases List.mem_cons.mp hx with e | hx
   ·subst e
    exact key_of ok (by rw [← hq.1]; exact hq.2.1)
   ·exact ih x hx
 exact all r x hx
theorem dt_of {kvs : List (List Key × V)} (ok : HOk P w H h) (e : H a = some (.dT kvs)) : kvs.length ≤ sizeLine ∧ (a == sysModules) = false ∧
  ∃ xs, KT H kvs xs ∧ h.DictOfH (tupleKind (mixKind P w)) a xs := dt_rd ok (.inl e)
end
noncomputable def DGet (H : Hp) (a : Addr) (y : V) (r : Option V) : Prop :=
 (∃ kvs k, Rd H a (.dK kvs) ∧ y = kV k ∧ r = valV kvs k) ∨ ∃ kvs k b, Rd H a (.dT kvs) ∧ y = .ref b ∧ H b = some (.tup (k.map kV)) ∧ r = valV kvs k
noncomputable def DPut (H : Hp) (a : Addr) (y v : V) (H' : Hp) : Prop :=
 (∃ kvs k, H a = some (.dK kvs) ∧ y = kV k ∧ kvs.length < sizeLine ∧ H' = upd H a (.dK (putK kvs k v))) ∨
 ∃ kvs k b, H a = some (.dT kvs) ∧ y = .ref b ∧ H b = some (.tup (k.map kV)) ∧ kvs.length < sizeLine ∧ H' = upd H a (.dT (putK kvs k v))
theorem DGet.k {H : Hp} {a : Addr} {kvs : List (Key × V)} {k : Key} (e : H a = some (.dK kvs)) : DGet H a (kV k) (valV kvs k) := .inl ⟨kvs, k, .inl e, rfl, rfl⟩
theorem DGet.t {H : Hp} {a b : Addr} {kvs : List (List Key × V)} {k : List Key} (e : H a = some (.dT kvs)) (eb : H b = some (.tup (k.map kV))) : DGet H a (.ref b) (valV kvs k) := .inr ⟨kvs, k, b, .inl e, rfl, eb, rfl⟩
theorem DPut.k {H : Hp} {a : Addr} {kvs : List (Key × V)} {k : Key} {v : V} (e : H a = some (.dK kvs)) (hl : kvs.length < sizeLine) : DPut H a (kV k) v (upd H a (.dK (putK kvs k v))) := .inl ⟨kvs, k, e, rfl, hl, rfl⟩
theorem DPut.t {H : Hp} {a b : Addr} {kvs : List (List Key × V)} {k : List Key} {v : V} (e : H a = some (.dT kvs)) (eb : H b = some (.tup (k.map kV))) (hl : kvs.length < sizeLine) :
  DPut H a (.ref b) v (upd H a (.dT (putK kvs k v))) := .inr ⟨kvs, k, b, e, rfl, eb, hl, rfl⟩
section
variable {X : Cx} {pins : List (Addr × Obj)} {σ : St} {H : Hp} {s : Shared} {a : Addr} {y v : V} {u r : Value} {o : Option V} {A : Around} {E : Value → Shared → Prop}
theorem Inv.big (I : Inv X pins σ H s) : sysModules < s.heap.objs.size := by
 have h : mainGlobals < s.heap.objs.size := (I.mod.glob.keeps I.bk).lt
 exact Nat.lt_trans (by decide) h
theorem d_getItem {Q : Value → Shared → Prop} (hu : A.units + 1 < cLine) (I : Inv X pins σ H s) (g : DGet H a y (some v)) (ry : RelV y u) (h : ∀ w' s', Inv X pins σ H s' → RelV v w' → Q w' s') :
  wpAny (model X.prog X.w) A (getItem (.ref a) u) Q E s := by
 rcases g with ⟨kvs, k, e, ey, l⟩ | ⟨kvs, k, b, e, ey, eb, l⟩
 ·subst ey
  obtain ⟨z, hd, vs, rel, dd⟩ := dk_rd I.hok e
  obtain ⟨w', hw, rw'⟩ := RelO.some_of (v := v) (o := valueAt vs k) (by rw [l]; exact rel.val k)
  exact wpAny_getItem_of (kV_is ry) dd.mapOf hw (h w' _ (I.tok _) rw')
 ·subst ey
  cases (show u = Value.ref b from ry)
  obtain ⟨z, hd, xs, rel, dd⟩ := dt_rd I.hok e
  obtain ⟨w', hw, rw'⟩ := RelO.some_of (v := v) (o := (atKey xs k).map (·.2)) (by rw [l]; exact rel.val k)
  obtain ⟨p, hp, hp2⟩ := Option.map_eq_some_iff.mp hw
  refine wpAny_getItem_heap (tupleKind_room_in1 hu) (key_of I.hok eb) dd hp ?_
  rw [hp2]
  exact h w' _ (I.tok _) rw'
theorem d_write {h' : Heap} {t' : Nat} {ob : HO} (I : Inv X pins σ H s) (mu : Mut (H a)) (hs : Heap.SameBut a s.heap h') (he : ∃ q, h'.get? a = some q) (new : ObjOk X.prog X.w (upd H a ob) h' a ob) :
  Inv X pins σ (upd H a ob) { s with heap := h', toks := t' } :=
 I.write (x := a) (e := a) mu (.inl rfl) (fun b q hb z => (hs.2 b hb).trans z) he new
theorem dk_new {P : Program} {w : World} {H' : Hp} {h' : Heap} {kvs : List (Key × V)} {vs : List (Key × Value)} (z : kvs.length ≤ sizeLine) (hd : (a == sysModules) = false) (rel : KV kvs vs) (dd : h'.DictOf (mixKind P w) a vs) :
  ObjOk P w H' h' a (.dK kvs) := ⟨z, hd, vs, rel, dd⟩
theorem d_setItem {H' : Hp} {Q : Unit → Shared → Prop} (hu : A.units + 1 < cLine) (I : Inv X pins σ H s) (g : DPut H a y v H') (ry : RelV y u) (rv : RelV v r) (h : ∀ s', Inv X pins σ H' s' → Q () s') :
  wpAny (model X.prog X.w) A (setItem (.ref a) u r) Q E s := by
 rcases g with ⟨kvs, k, e, ey, l, eH⟩ | ⟨kvs, k, b, e, ey, eb, l, eH⟩
 ·subst ey eH
  obtain ⟨z, hd, vs, rel, dd⟩ := dk_of I.hok e
  have hz : vs.length ≤ sizeLine := by rw [← rel.length]; exact z
  have hl : (putK kvs k v).length ≤ sizeLine := by have := length_putK kvs k v; omega
  refine wpAny_setItem_pairs (hsz := hz) (kV_is ry) dd fun h' dd' hs => h _ ?_
  have he : ∃ q, h'.get? a = some q := let ⟨q, _, _, hq, _⟩ := dd'; ⟨q, hq⟩
  exact d_write I (by rw [e]; exact True.intro) hs he (dk_new hl hd (rel.put k rv) dd')
 ·subst ey eH
  cases (show u = Value.ref b from ry)
  obtain ⟨z, hd, xs, rel, dd⟩ := dt_of I.hok e
  have hz : xs.length ≤ sizeLine := by rw [← Paired.length rel]; exact z
  have hl : (putK kvs k v).length ≤ sizeLine := by have := length_putK kvs k v; omega
  refine wpAny_setItem_heap (hsz := hz) (tupleKind_room_in1 hu) (key_of I.hok eb) dd fun h' dd' hs => h _ ?_
  obtain ⟨q, es, ep, hq, h2, h3, h4, _, h5⟩ := dd'
  refine d_write I (by rw [e]; exact True.intro) hs ⟨q, hq⟩ ⟨hl, hd, _, (rel.put k eb rv).keeps fun c ys ec => ?_, q, es, ep, hq, h2, h3, h4, h5⟩
  rw [upd_ne (ne_of ec e (fun z => nomatch z))]
  exact ec
end
section
variable {X : Cx} {pins : List (Addr × Obj)} {σ : St} {H : Hp} {s : Shared} {a : Addr} {kvs : List (Key × V)} {k : Key} {u : Value} {A : Around} {E : Value → Shared → Prop}
end
noncomputable def NoSl (i : Expr) : Prop := ∀ ov iv, subscripted i false ov iv = operate [ov, iv] (getItem ov iv)
theorem subD_of {prog : Program} {w : World} {A : Around} {E : Value → Shared → Prop} {s : Shared} {env : Env} {value slice : Expr} {pos : Pos} {T id : String} {Q : Value → Shared → Prop}
  (hl : typeLookup (.type T) "__getitem__" = pure (some (.builtin id))) (hs : NoSl slice)
  (h : wpAny (model prog w) A (eval value env) (fun o s₁ => wpAny (model prog w) A (eval slice env) (fun i s₂ => s₂.TypeIs o T ∧ wpAny (model prog w) A (getItem o i) Q E s₂) E s₁) E s) :
  wpAny (model prog w) A (eval (.Subscript value slice pos) env) Q E s := by
 refine Subscript_ (wpAny_mono h (fun o s₁ h₁ => wpAny_mono h₁ (fun i s₂ h₂ => ?_) fun _ _ x => x) fun _ _ x => x)
 obtain ⟨hT, h₂⟩ := h₂
 unfold subscriptTail
 refine wpAny_bind ?_
 rw [getitemInPython_of_ne hT.not_modules]
 refine wpAny_bind (wpAny_specialOf hT hl ?_)
 have fin : wpAny (model prog w) A (subscripted slice false o i) (fun r s₃ => wpAny (model prog w) A (letTemporaryGo value o r >>= fun _ => pure r) Q E s₃) E s₂ := by
  rw [hs o i]
  exact wpAny_operating (wpAny_mono h₂ (fun r s₃ h₃ => wpAny_bind (wpAny_letTemporaryGo (wpAny_pure h₃))) fun _ _ x => x)
 first
  | exact wpAny_pure (wpAny_bind fin)
  | exact wpAny_bind (wpAny_pure (wpAny_bind fin))
  | exact wpAny_bind fin
theorem dict_typeIs {X : Cx} {pins : List (Addr × Obj)} {σ : St} {H : Hp} {s : Shared} {a : Addr} {y : V} {o : Option V} (I : Inv X pins σ H s) (g : DGet H a y o) : s.TypeIs (.ref a) "dict" := by
 rcases g with ⟨kvs, k, e, _, _⟩ | ⟨kvs, k, b, e, _, _, _⟩
 ·obtain ⟨_, _, vs, _, dd⟩ := dk_rd I.hok e
  exact dd.typeIs
 ·obtain ⟨_, _, xs, _, dd⟩ := dt_rd I.hok e
  exact dd.typeIs
noncomputable def tDGet (td ty : TE) : TE := fun σ H Q => td σ H fun x H1 => ty σ H1 fun y H2 => ∃ a v, x = .ref a ∧ DGet H2 a y (some v) ∧ Q v H2
noncomputable def sDPut (td ty tv : TE) : TS := fun D σ H => tv σ H fun v H1 => td σ H1 fun x H2 => ty σ H2 fun y H3 => ∃ a H4, x = .ref a ∧ DPut H3 a y v H4 ∧ D.nx σ H4
section
variable {X : Cx} {o i e value : Expr} {pos pos' tpos : Pos} {td ty tv : TE}
theorem pe_dget (hu : X.A.units + 1 < cLine) (ho : PE X o td) (hi : PE X i ty) (hs : NoSl i) : PE X (.Subscript o i pos) (tDGet td ty) := by
 intro pins s σ H Q I h
 refine subD_of PySem.F.slot_dict_getitem.lookup hs (thn (ho pins s σ H _ I h) fun u s1 ⟨x, H1, I1, rx, q1⟩ => thn (hi pins s1 σ H1 _ I1 q1) fun iv s2 ⟨y, H2, I2, ry, a, v, ex, g, q2⟩ => ?_)
 subst ex
 obtain rfl : u = Value.ref a := rx
 exact ⟨dict_typeIs I2 g, d_getItem hu I2 g ry fun w' s3 I3 rw' => ⟨v, H2, I3, rw', q2⟩⟩
theorem ps_dput (hu : X.A.units + 1 < cLine) (ho : PE X o td) (hi : PE X i ty) (hv : PE X value tv) (hs : swapsWith value (some (.Subscript o i pos')) pos.line X.env = pure false) :
  PS X (.Assign [.Subscript o i pos'] value pos) (sDPut td ty tv) := by
 intro pins s σ H D I h
 refine wpAny_Assign_Subscript (thn (hv pins s σ H _ I h) fun r s1 ⟨v, H1, I1, rv, q1⟩ => thn (ho pins s1 σ H1 _ I1 q1) fun u s2 ⟨x, H2, I2, rx, q2⟩ => thn (hi pins s2 σ H2 _ I2 q2) fun iv s3 ⟨y, H3, I3, ry, a, H4, ex, g, q3⟩ => ?_) hs
 subst ex
 obtain rfl : u = Value.ref a := rx
 exact d_setItem hu I3 g ry rv fun s4 I4 => ⟨σ, H4, I4, q3⟩
end
theorem dk_empty {P : Program} {w : World} {H : Hp} (h : Heap) (hb : sysModules < h.objs.size) : ObjOk P w H (h.push { cls := .type "dict", data := .dict #[] }) h.objs.size (.dK []) :=
 ⟨Nat.zero_le _, beq_eq_false_iff_ne.mpr (Ne.symm (Nat.ne_of_lt hb)), [], .nil, Heap.DictOf.new h⟩
noncomputable def tDNewK : TE := fun _ H Q => ∀ p, H p = none → Q (.ref p) (upd H p (.dK []))
section
variable {X : Cx} {pos : Pos}
theorem pe_dnewK : PE X (.Dict [] [] pos) tDNewK := fun pins s σ H Q I h =>
 wpAny_Dict_empty ⟨.ref s.heap.objs.size, _, I.laid (a := s.heap.objs.size) (o := .dK []) (t' := s.toks) (fun _ _ q => Heap.get?_push_of_some _ q) (Nat.le_refl _) (dk_empty s.heap I.big), rfl, h _ (I.hok.fresh (Nat.le_refl _))⟩
end
noncomputable abbrev VV : List (V × V) → List (Value × Value) → Prop := Paired fun p q => RelV p.1 q.1 ∧ RelV p.2 q.2
noncomputable def mergeK (kvs more : List (Key × V)) : List (Key × V) := more.foldl (fun acc kv => putK acc kv.1 kv.2) kvs
theorem KV.merge : ∀ {more : List (Key × V)} {rs : List (Key × Value)} {kvs : List (Key × V)} {vs : List (Key × Value)}, KV more rs → KV kvs vs → KV (mergeK kvs more) (merged vs rs) := by
 intro more rs kvs vs r
 unfold KV at r
 induction r generalizing kvs vs with
 | nil => intro q; exact q
 | @cons p q ps qs h t ih =>
  intro r0
  have e : KV (putK kvs p.1 p.2) (stored vs q.1 q.2) := by
   have := r0.put p.1 h.2
   rw [← h.1]; exact this
  exact ih e
theorem length_mergeK : ∀ (more kvs : List (Key × V)), (mergeK kvs more).length ≤ kvs.length + more.length
 | [], kvs => by show kvs.length ≤ kvs.length + 0; omega
 | p :: r, kvs => by
  have h1 := length_mergeK r (putK kvs p.1 p.2)
  have h2 := length_putK kvs p.1 p.2
  show (mergeK (putK kvs p.1 p.2) r).length ≤ _
  rw [List.length_cons]; omega
structure M1 (X : Cx) (o : Expr) (m : Str) (apos : Pos) (e : Expr) (cpos : Pos) : Prop where
 base : attributeBase o m X.env (eval o X.env) = eval o X.env
 few : ((backTo cpos (starEach [e] X.env)).all (fun x => !x.1) && (backToKw cpos (keywordEach [] X.env)).all (fun x => x.1.isSome)
  && decide (([e] : List Expr).length + ([] : List Keyword).length + (if ([] : List Keyword).isEmpty then 0 else 1) < 30)) = true
 line : (apos.endLine == cpos.line) = true
 trees : backTo cpos (starEach [e] X.env) = [(false, eval e X.env)]
structure M2 (X : Cx) (o : Expr) (m : Str) (apos : Pos) (e f : Expr) (cpos : Pos) : Prop where
 base : attributeBase o m X.env (eval o X.env) = eval o X.env
 few : ((backTo cpos (starEach [e, f] X.env)).all (fun x => !x.1) && (backToKw cpos (keywordEach [] X.env)).all (fun x => x.1.isSome)
  && decide (([e, f] : List Expr).length + ([] : List Keyword).length + (if ([] : List Keyword).isEmpty then 0 else 1) < 30)) = true
 line : (apos.endLine == cpos.line) = true
 trees : backTo cpos (starEach [e, f] X.env) = [(false, eval e X.env), (false, eval f X.env)]
section
variable {X : Cx} {pins : List (Addr × Obj)} {σ : St} {H : Hp} {s : Shared} {a : Addr} {y d : V} {u r : Value} {o : Option V} {A : Around} {E : Value → Shared → Prop}
end
section
variable {X : Cx} {o e f : Expr} {apos cpos : Pos} {td ty tx : TE}
end
section
variable {X : Cx} {pins : List (Addr × Obj)} {σ : St} {H : Hp} {s : Shared} {a : Addr} {kvs : List (Key × V)} {A : Around} {E : Value → Shared → Prop}
end
section
variable {X : Cx} {pins : List (Addr × Obj)} {σ : St} {H : Hp} {s : Shared} {a : Addr} {y : V} {u : Value} {A : Around} {E : Value → Shared → Prop}
end
end L2
namespace L2
open PySem PySem.Spec PyProof.Rows
section
variable {X : Cx}
end
section
variable {κ : Type} [DecidableEq κ]
end
end L2
namespace L2
open PySem PySem.Spec PyProof.Rows
theorem compLoopT {prog : Program} {w : World} {A : Around} {R : Result → Shared → Prop} {s : Shared} {elt target iter : Expr} {ifs : List Expr} {scope : Scope} {pos : Pos} {it acc : Value} {env : Env} (I : Nat → Shared → Prop)
  (turn : ∀ n s, I n s → wpAny (model prog w) A (pyNext it) (fun r s₁ => match r with
   | none => R (.ok .next) s₁
   | some v => wpAny (model prog w) A (letOwnedTupleGo target it v) (fun _ s₂ => wpAny (model prog w) A (assign target env v) (fun _ s₃ =>
     wpAny (model prog w) A (forIn ifs true fun c r => if r = true then do let ok ← isTrue c env (eval c env); pure (ForInStep.yield ok) else pure (ForInStep.yield r)) (fun ok s₄ =>
      if ok = true then wpAny (model prog w) A (eval elt env) (fun x s₅ =>
       wpAny (model prog w) A (call (.builtin "list.append") [acc, x]) (fun _ s₆ => ∃ m, m < n ∧ I m s₆) (fun _ _ => False) s₅) (fun _ _ => False) s₄
      else ∃ m, m < n ∧ I m s₄) (fun _ _ => False) s₃) (fun _ _ => False) s₂) (fun _ _ => False) s₁) (fun _ _ => False) s)
  (n : Nat) (h : I n s) :
  codeAny (model prog w) A (.compLoop (.ListComp elt [⟨target, iter, ifs, 0⟩] scope pos) 0 it acc env) R s := by
 refine codeAny_loop rfl I (fun n s hI => ?_) n h
 show wpAny _ A ((compTurn (.ListComp elt [⟨target, iter, ifs, 0⟩] scope pos) 0 it acc env).onRaise (fun x => do noteFrame x env; theTreesLotGoes x)) _ _ s
 refine wpAny_noted ?_
 rw [compTurn_list]
 refine wpAny_bind (wpAny_standAt (wpAny_bind (wpAny_mono (turn n s hI) (fun r s₁ h₁ => ?_) fun _ _ h' => h'.elim)))
 cases r with
 | none => exact wpAny_pure h₁
 | some v =>
  refine wpAny_bind (wpAny_mono h₁ (fun _ s₂ h₂ => ?_) fun _ _ h' => h'.elim)
  refine wpAny_bind (wpAny_mono h₂ (fun _ s₃ h₃ => wpAny_bind (wpAny_mono h₃ (fun ok s₄ h₄ => ?_) fun _ _ h' => h'.elim)) fun _ _ h' => h'.elim)
  cases ok with
  | false => exact wpAny_pure ⟨rfl, h₄⟩
  | true =>
   exact wpAny_bind (wpAny_bind (wpAny_mono h₄ (fun x s₅ h₅ => wpAny_bind (wpAny_mono h₅ (fun _ s₆ h₆ => wpAny_pure (wpAny_pure ⟨rfl, h₆⟩)) fun _ _ h' => h'.elim)) fun _ _ h' => h'.elim))
noncomputable def PF (X : Cx) (ifs : List Expr) (t : TT) : Prop :=
 ∀ (pins : List (Addr × Obj)) (s : Shared) (σ : St) (H : Hp) (Q : Bool → Hp → Prop), Inv X pins σ H s → t σ H Q →
  wpAny (model X.prog X.w) X.A (forIn ifs true fun c r => if r = true then do let ok ← isTrue c X.env (eval c X.env); pure (ForInStep.yield ok) else pure (ForInStep.yield r)) (TP X pins σ Q) X.xe s
noncomputable def tYes : TT := fun _ H Q => Q true H
theorem pf_nil {X : Cx} : PF X [] tYes := fun _ _ _ H _ I h => wpAny_tests_nil ⟨H, I, h⟩
theorem pf_one {X : Cx} {c : Expr} {t : TT} (hc : PT X c t) : PF X [c] t := fun pins s σ H Q I h => wpAny_tests_one (hc pins s σ H Q I h)
noncomputable def closL (env : Env) : List (Str × NameKind) → List (Str × Addr) → List (Str × Addr)
 | [], acc => acc
 | (n, k) :: r, acc => closL env r (if k == .free then (n, (env.cells.lookup n).getD 0) :: acc else acc)
theorem closureFor_L {scope : Scope} {env : Env} (h : ∀ y ∈ scope.names, y.2 = .free → ∃ c, env.cells.lookup y.1 = some c) : closureFor scope env = pure (closL env scope.names []) := by
 have go : ∀ (names : List (Str × NameKind)) (acc : List (Str × Addr)), (∀ y ∈ names, y.2 = .free → ∃ c, env.cells.lookup y.1 = some c) →
   (forIn (m := Sem) names acc fun x r => (match x with | (name, kind) => if (kind == .free) = true then do let a ← cellOf env name; pure (ForInStep.yield ((name, a) :: r)) else pure (ForInStep.yield r))) = pure (closL env names acc) := by
  intro names
  induction names with
  | nil => intro acc _; rfl
  | cons y r ih =>
   obtain ⟨n, k⟩ := y
   intro acc hh
   rw [List.forIn_cons]
   cases hk : (k == NameKind.free) with
   | true =>
    have hk' : k = .free := by simpa using hk
    obtain ⟨c, hc⟩ := hh (n, k) List.mem_cons_self hk'
    have ec : cellOf env n = pure c := by unfold cellOf; rw [hc]
    simp only [hk, if_true, ec, pure_bind, closL, hc, Option.getD_some]
    exact ih _ fun y hy => hh y (List.mem_cons_of_mem _ hy)
   | false =>
    simp only [hk, Bool.false_eq_true, if_false, pure_bind, closL]
    exact ih _ fun y hy => hh y (List.mem_cons_of_mem _ hy)
 have g := go scope.names [] h
 unfold closureFor
 simp only [g, pure_bind]
theorem closL_sub {env : Env} : ∀ (names : List (Str × NameKind)) (acc : List (Str × Addr)), (∀ y ∈ names, y.2 = .free → ∃ c, env.cells.lookup y.1 = some c) → (∀ x c, acc.lookup x = some c → env.cells.lookup x = some c) →
  ∀ x c, (closL env names acc).lookup x = some c → env.cells.lookup x = some c
 | [], _, _, ha, x, c, h => ha x c h
 | (n, k) :: r, acc, hh, ha, x, c, h => by
  refine closL_sub r _ (fun y hy => hh y (List.mem_cons_of_mem _ hy)) (fun x c e => ?_) x c h
  cases hk : (k == NameKind.free) with
  | false => rw [hk] at e; exact ha x c e
  | true =>
   rw [hk] at e
   have hk' : k = .free := by simpa using hk
   obtain ⟨c', hc⟩ := hh (n, k) List.mem_cons_self hk'
   simp only [if_true, hc, Option.getD_some] at e
   rw [List.lookup_cons] at e
   cases hx : (x == n) with
   | true =>
    rw [hx] at e
    have : x = n := by simpa using hx
    rw [this, hc]; exact e
   | false => rw [hx] at e; exact ha x c e
theorem closL_acc {env : Env} : ∀ (names : List (Str × NameKind)) (acc : List (Str × Addr)) (x : Str), (∃ c, acc.lookup x = some c) → ∃ c, (closL env names acc).lookup x = some c
 | [], _, _, h => h
 | (n, k) :: r, acc, x, h => by
  refine closL_acc r _ x ?_
  cases hk : (k == NameKind.free) with
  | false => exact h
  | true =>
   simp only [if_true]
   rw [List.lookup_cons]
   cases hx : (x == n) with
   | true => exact ⟨_, rfl⟩
   | false => exact h
theorem closL_has {env : Env} : ∀ (names : List (Str × NameKind)) (acc : List (Str × Addr)) (x : Str), (x, NameKind.free) ∈ names → ∃ c, (closL env names acc).lookup x = some c
 | [], _, _, h => by simp at h
 | (n, k) :: r, acc, x, h => by
  rcases List.mem_cons.mp h with e | h
  ·cases e
   refine closL_acc r _ _ ?_
   simp
  ·exact closL_has r _ x h
theorem lookup_relabel {env : Env} : ∀ {names : List (Str × NameKind)} {x : Str} {k : NameKind}, (names.map fun (n, k) => if (k == NameKind.free && env.scope.kind == .function && env.kindOf n == some .cell) then (n, NameKind.cell) else (n, k)).lookup x = some k →
  ∃ k', (x, k') ∈ names ∧ names.lookup x = some k' ∧ (k' = k ∨ (k' = .free ∧ k = .cell))
 | [], _, _, h => by simp at h
 | (n, k₀) :: r, x, k, h => by
  have ih := @lookup_relabel env r x k
  rw [List.map_cons] at h
  dsimp only at h
  cases hx : x == n with
  | true =>
   have e : x = n := by simpa using hx
   subst e
   refine ⟨k₀, List.mem_cons_self, by simp, ?_⟩
   by_cases hc : (k₀ == NameKind.free && env.scope.kind == .function && env.kindOf x == some .cell) = true
   ·rw [if_pos hc] at h
    simp only [List.lookup_cons, beq_self_eq_true] at h
    simp only [Bool.and_eq_true, beq_iff_eq] at hc
    exact .inr ⟨hc.1.1, (Option.some.inj h).symm⟩
   ·rw [if_neg hc] at h
    simp only [List.lookup_cons, beq_self_eq_true] at h
    exact .inl (Option.some.inj h)
  | false =>
   have h' : (r.map fun (n, k) => if (k == NameKind.free && env.scope.kind == .function && env.kindOf n == some .cell) then (n, NameKind.cell) else (n, k)).lookup x = some k := by
    by_cases hc : (k₀ == NameKind.free && env.scope.kind == .function && env.kindOf n == some .cell) = true
    ·rw [if_pos hc] at h; simpa only [List.lookup_cons, hx] using h
    ·rw [if_neg hc] at h; simpa only [List.lookup_cons, hx] using h
   obtain ⟨k', h1, h2, h3⟩ := ih h'
   exact ⟨k', List.mem_cons_of_mem _ h1, by simpa only [List.lookup_cons, hx] using h2, h3⟩
noncomputable def blk (X : Cx) (scope : Scope) (ow : List Str) (ci : List Nat) (C : Addr) (s₀ : Shared) (H₀ : Hp) (ex : List Addr) (pn : List (Addr × Obj)) : Cx :=
 { X with N := ow ++ ci.map fun j => X.N.getD j "", s₀ := s₀, H₀ := H₀, env := compEnvC scope (closL X.env scope.names []) C X.env, outer := X.stack, stack := X.stack, ex := ex, fn := fun _ => false, pn := pn, xe := fun _ _ => False }
structure CompScope (X : Cx) (scope : Scope) (ow : List Str) (ci : List Nat) : Prop where
 kind : scope.kind = .function
 cell : ∀ y ∈ scope.names, y.2 ≠ .cell
 names : ∀ y ∈ scope.names, y.2 = .local → scope.names.lookup y.1 = some .local
 free : ∀ y ∈ scope.names, y.2 = .free → X.env.kindOf y.1 = some .cell ∨ X.env.kindOf y.1 = some .free
 ix : ∀ j ∈ ci, j < X.N.length ∧ scope.names.lookup (X.N.getD j "") = some .free
noncomputable def compOk (fsc : Scope) (N : List Str) (scope : Scope) (ci : List Nat) : Bool :=
 scope.kind == .function && scope.names.all (fun y => y.2 != .cell) && scope.names.all (fun y => y.2 != .local || scope.names.lookup y.1 == some .local) &&
 scope.names.all (fun y => y.2 != .free || fsc.names.lookup y.1 == some .cell || fsc.names.lookup y.1 == some .free) && ci.all (fun j => decide (j < N.length) && scope.names.lookup (N.getD j "") == some .free)
theorem CompScope.of {X : Cx} {scope : Scope} {ow : List Str} {ci : List Nat} (fsc : Scope) (N : List Str) (e1 : X.env.scope = fsc) (e2 : X.N = N) (h : compOk fsc N scope ci = true) : CompScope X scope ow ci := by
 subst e1 e2
 unfold compOk at h
 simp only [Bool.and_eq_true, List.all_eq_true, Bool.or_eq_true, bne_iff_ne, ne_eq, beq_iff_eq, decide_eq_true_eq] at h
 obtain ⟨⟨⟨⟨h1, h2⟩, h3⟩, h4⟩, h5⟩ := h
 refine ⟨h1, h2, fun y hy e => ?_, fun y hy e => ?_, fun j hj => h5 j hj⟩
 ·rcases h3 y hy with z | z
  ·exact absurd e z
  ·exact z
 ·rcases h4 y hy with (z | z) | z
  ·exact absurd e z
  ·exact .inl z
  ·exact .inr z
theorem blk_nd {X : Cx} {scope : Scope} {ow : List Str} {ci : List Nat} {C : Addr} {s₀ : Shared} {H₀ : Hp} {ex : List Addr} {pn : List (Addr × Obj)} (N : List Str) (e : X.N = N) (h : (ow ++ ci.map fun j => N.getD j "").Nodup) : (blk X scope ow ci C s₀ H₀ ex pn).N.Nodup := by
 subst e
 exact h
noncomputable def capAt (σ : St) (j : Nat) : Option V := match σ[j]? with | some o => o | none => none
noncomputable def capS (n : Nat) (ci : List Nat) (σ : St) : St := List.replicate n none ++ ci.map (capAt σ)
noncomputable def tComp (wi : TI) (n : Nat) (ci : List Nat) (g : TG) (tf : TT) (te : TE) : TE := fun σ H Q => wi σ H fun J H1 => ∃ W : Nat → Nat → List V → Hp → Prop, (∃ m, W 0 m [] H1) ∧ ∀ i m ys H, W i m ys H →
 (J.stop i H ∧ ys.length ≤ sizeLine ∧ ∀ p, H p = none → Q (.ref p) (upd H p (.lst ys))) ∨
 (J.go i H ∧ ∃ N : List V → Hp → Prop, (∀ ys' H', N ys' H' → ∃ m', m' < m ∧ W (i + 1) m' ys' H') ∧ ∀ x H', J.yld i H x H' → g x (capS n ci σ) H' fun σ2 H2 => tf σ2 H2 fun b H3 =>
  if b = true then te σ2 H3 fun v H4 => ys.length < sizeLine ∧ N (ys ++ [v]) H4 else N ys H3)
section
variable {X : Cx} {pins : List (Addr × Obj)} {σ : St} {H : Hp} {s : Shared} {elt iter tg : Expr} {ifs : List Expr} {scope : Scope} {pos : Pos} {ow : List Str} {ci : List Nat} {g : TG} {tf : TT} {te : TE}
theorem CompScope.cells (S : CompScope X scope ow ci) (ok : X.Ok) : ∀ y ∈ scope.names, y.2 = .free → ∃ c, X.env.cells.lookup y.1 = some c := fun y hy e => ok.has y.1 (S.free y hy e)
theorem CompScope.sub (S : CompScope X scope ow ci) (ok : X.Ok) : ∀ x c, (closL X.env scope.names []).lookup x = some c → X.env.cells.lookup x = some c :=
 closL_sub scope.names [] (S.cells ok) fun _ _ e => by simp at e
theorem blk_ok (S : CompScope X scope ow ci) (I : Inv X pins σ H s) {C : Addr} {ex : List Addr} {pn : List (Addr × Obj)} (hC : s.heap.objs.size ≤ C)
  (hex : ∀ b ∈ ex, b < s.heap.objs.size ∧ FpOk X pins H b) : (blk X scope ow ci C s H ex pn).Ok where
 mod := I.ok.mod
 kind := S.kind
 glob := I.ok.glob
 blt := I.ok.blt
 above := hC
 inj := fun x y c h1 h2 => I.ok.inj x y c (S.sub I.ok x c h1) (S.sub I.ok y c h2)
 has := fun x h => by
  have h' : ∃ k, (relabel scope X.env).names.lookup x = some k ∧ (k = .cell ∨ k = .free) := by
   rcases h with h | h
   ·exact ⟨_, h, .inl rfl⟩
   ·exact ⟨_, h, .inr rfl⟩
  obtain ⟨k, hl, hk⟩ := h'
  obtain ⟨k', hm, _, e⟩ := lookup_relabel (env := X.env) hl
  have hf : k' = .free := by
   rcases e with e | ⟨e, _⟩
   ·subst e
    rcases hk with hk | hk
    ·exact absurd hk (S.cell _ hm)
    ·exact hk
   ·exact e
  subst hf
  exact closL_has scope.names [] x hm
 cab := fun x c h _ => by cases h
 hd := I.ok.hd
 frames := I.ok.frames
 stk := .inl rfl
 exf := fun b hb => ⟨Nat.ne_of_lt (Nat.lt_of_lt_of_le (hex b hb).1 hC), fun x c e => (hex b hb).2.2.2.2.2.1 x c (S.sub I.ok x c e)⟩
 bs := I.bs
 bsz := Nat.le_trans I.ok.bsz I.sz
 noex := fun b o e hb => by
  obtain ⟨_, _, _, h3, _⟩ := (hex b hb).2
  rcases h3 with z | z
  ·exact I.ok.noex b o e z
  ·exact absurd (Nat.lt_of_lt_of_le (Heap.lt_size e) (Nat.le_trans I.ok.bsz z)) (Nat.lt_irrefl _)
 exfs := fun b hb z => by
  obtain ⟨_, h1, h2, _⟩ := (hex b hb).2
  rcases List.mem_cons.mp (I.stkSub b z) with e | e
  ·exact h1 e
  ·exact h2 e
 funs := I.stack
 frf := I.stkFree
theorem blk_start (S : CompScope X scope ow ci) (I : Inv X pins σ H s) {C : Addr} {ex : List Addr} {h₁ : Heap} {t₁ : Nat} {m₀ : Str → Option Value} (hC : s.heap.objs.size ≤ C)
  (hex : ∀ b ∈ ex, b < s.heap.objs.size ∧ FpOk X pins H b) (hn : h₁.Ns C m₀) (k : ∀ b o, s.heap.get? b = some o → h₁.get? b = some o) :
  Inv (blk X scope ow ci C s H ex (X.pn ++ pins)) [] (capS ow.length ci σ) H { s with heap := h₁, toks := t₁ } := by
 have ok := blk_ok (pn := X.pn ++ pins) S I hC hex
 refine ⟨ok, rfl, I.bare, Un.kept k, ⟨m₀, hn, fun i x v e1 e2 e3 => ?_⟩, fun x c e => ?_, I.hok.fresh hC, fun x c e => I.freeC x c (S.sub I.ok x c e), fun p hp => ?_, I.hok.kept k, ?_⟩
 ·have e1' : (ow ++ ci.map fun j => X.N.getD j "")[i]? = some x := e1
  unfold capS at e2
  by_cases hi : i < ow.length
  ·rw [List.getElem?_append_left (by simpa using hi), List.getElem?_replicate, if_pos hi] at e2
   cases e2
  ·rw [List.getElem?_append_right (by simpa using hi), List.getElem?_map, List.length_replicate] at e2
   rw [List.getElem?_append_right (by omega), List.getElem?_map] at e1'
   cases hj : ci[i - ow.length]? with
   | none => rw [hj] at e2; cases e2
   | some j =>
    rw [hj] at e1' e2
    obtain ⟨hl, hf⟩ := S.ix j (List.mem_of_getElem? hj)
    have ex' : X.N.getD j "" = x := Option.some.inj e1'
    have eN : X.N[j]? = some x := by
     rw [← ex', List.getD_eq_getElem?_getD, List.getElem?_eq_getElem hl]; rfl
    have ev : σ[j]? = some (some v) := by
     have e2' : capAt σ j = some v := Option.some.inj e2
     unfold capAt at e2'
     cases q : σ[j]? with
     | none => rw [q] at e2'; cases e2'
     | some o => rw [q] at e2'; rw [show o = some v from e2']
    rw [ex'] at hf
    have hmem : (x, NameKind.free) ∈ scope.names := PySem.mem_of_lookup hf
    have hk := S.free _ hmem rfl
    obtain ⟨m, _, hl'⟩ := I.loc
    have vis : Vis X.env.scope x := by
     rcases hk with q | q
     ·exact .inr (.inl q)
     ·exact .inr (.inr q)
    obtain ⟨u, r, lk⟩ := hl' j x v eN ev vis
    refine ⟨u, r, .inr ⟨?_, ?_⟩⟩
    ·rcases e3 with q | q | q
     ·obtain ⟨k', _, h2, h3⟩ := lookup_relabel (env := X.env) q
      rw [hf] at h2; cases h2
      rcases h3 with h3 | ⟨_, h3⟩ <;> cases h3
     ·exact .inl q
     ·exact .inr q
    ·rcases lk with ⟨q, _⟩ | ⟨_, c, hc, hcell⟩
     ·have q' : X.env.kindOf x = some .local := q
      rcases hk with z | z <;> (rw [z] at q'; cases q')
     ·obtain ⟨c', hc'⟩ := closL_has (env := X.env) scope.names [] x hmem
      have e := S.sub I.ok x c' hc'
      rw [hc] at e; cases e
      exact ⟨c, hc', hcell.keeps k⟩
 ·obtain ⟨v, q⟩ := I.cell x c (S.sub I.ok x c e)
  exact ⟨v, q.keeps k⟩
 ·have hp' : p ∈ X.pn ++ pins := by
   rcases List.mem_append.mp hp with z | z
   ·exact z
   ·cases z
  obtain ⟨e, n, ne, nf, d⟩ := I.pin p hp'
  refine ⟨k _ _ e, n, Nat.ne_of_lt (Nat.lt_of_lt_of_le (Heap.lt_size e) hC), fun z => ?_, d⟩
  rcases List.mem_cons.mp (I.stkSub p.1 z) with q | q
  ·exact ne q
  ·exact nf q
 ·show (capS ow.length ci σ).length = (ow ++ ci.map fun j => X.N.getD j "").length
  simp [capS]
theorem Inv.forget {σ' : St} (I : Inv X pins σ' H s) (n : Nat) (ci : List Nat) (σ : St) (hl : (capS n ci σ).length = X.N.length) (h : ∀ i v, n ≤ i → (capS n ci σ)[i]? = some (some v) → σ'[i]? = some (some v)) : Inv X pins (capS n ci σ) H s :=
 I.weak (by rw [hl, I.len]) fun i v e => by
  by_cases hi : n ≤ i
  ·exact h i v hi e
  ·unfold capS at e
   rw [List.getElem?_append_left (by simpa using hi), List.getElem?_replicate, if_pos (by omega)] at e
   cases e
noncomputable def GKeeps (n : Nat) (g : TG) : Prop := ∀ x σ H (Q : St → Hp → Prop), g x σ H Q → g x σ H fun σ2 H2 => (∀ (i : Nat) v, n ≤ i → σ[i]? = some (some v) → σ2[i]? = some (some v)) ∧ Q σ2 H2
theorem gk_name {n i : Nat} (h : i < n) : GKeeps n (gName i) := fun x σ H Q q => ⟨fun j v hj e => by rw [List.getElem?_set_ne (by omega)]; exact e, q⟩
theorem gk_tup2 {K : PySem.W.Frag} {n i j : Nat} (hi : i < n) (hj : j < n) : GKeeps n (gTup K 2 (gCons (gName i) (gCons (gName j) gNil))) := fun x σ H Q q => by
 obtain ⟨a, xs, e1, e2, e3, v, r, e4, v', r', e5, e6, q⟩ := q
 refine ⟨a, xs, e1, e2, e3, v, r, e4, v', r', e5, e6, fun k u hk e => ?_, q⟩
 rw [List.getElem?_set_ne (by omega), List.getElem?_set_ne (by omega)]
 exact e
theorem comp_block {E : Value → Shared → Prop} {J : It} {fp : List Addr} {it : Addr} {tn : Nat → Heap → Prop} {RR : Value → Addr → Result → Shared → Prop} (hc : X.calm = true) (S : CompScope X scope ow ci) (hk : GKeeps ow.length g)
  (hb : ∀ C s₀ H₀ ex pn, PG (blk X scope ow ci C s₀ H₀ ex pn) tg g ∧ PF (blk X scope ow ci C s₀ H₀ ex pn) ifs tf ∧ PE (blk X scope ow ci C s₀ H₀ ex pn) elt te)
  (I : Inv X pins σ H s) (T : Turn X.prog X.w X.K tg J fp it tn) (st : tn 0 s.heap) (hf : ∀ b ∈ fp, FpOk X pins H b) (Z : List V → Hp → Prop)
  (W : Nat → Nat → List V → Hp → Prop) (w0 : ∃ m, W 0 m [] H)
  (turn : ∀ i m ys H, W i m ys H → (J.stop i H ∧ ys.length ≤ sizeLine ∧ Z ys H) ∨
   (J.go i H ∧ ∃ N : List V → Hp → Prop, (∀ ys' H', N ys' H' → ∃ m', m' < m ∧ W (i + 1) m' ys' H') ∧ ∀ x H', J.yld i H x H' → g x (capS ow.length ci σ) H' fun σ2 H2 => tf σ2 H2 fun b H3 =>
    if b = true then te σ2 H3 fun v H4 => ys.length < sizeLine ∧ N (ys ++ [v]) H4 else N ys H3))
  (fin : ∀ D C s' H' m ys, Inv X pins σ (upd H' D (.lst ys)) s' → H' D = none → Z ys H' → s'.heap.Ns C m → s.heap.objs.size ≤ C → C ≠ D → H' C = none → RR (.ref D) C (.ok .next) s') :
  wpAny (model X.prog X.w) X.A (newList []) (fun acc s₃ => wpAny (model X.prog X.w) X.A (newFunctionEnv scope X.env.globals (closL X.env scope.names []) [] X.env.qual none .none (some X.env)) (fun cenv s₄ =>
   codeAny (model X.prog X.w) X.A (.compStart (.ListComp elt [⟨tg, iter, ifs, 0⟩] scope pos) 0 (.ref it) acc { cenv with scope := relabel scope X.env }) (RR acc cenv.locals) s₄) E s₃) E s := by
 refine wpAny_newObj_type (wpAny_newFunctionEnv S.cell (by intro y hy; simp at hy) (fun h₁ hns₁ hsb₁ => ?_) S.kind)
 dsimp only at hns₁ hsb₁ ⊢
 -- the list that is filled stands at D, the block's names at C
 generalize hs3 : ({ s with heap := s.heap.push { cls := .type "list", dict := none, data := .seq ([] : List Value).toArray } } : Shared) = s3
 have e3 : s3.heap = s.heap.push { cls := .type "list", dict := none, data := .seq ([] : List Value).toArray } := by rw [← hs3]
 rw [← e3] at hns₁ hsb₁ ⊢
 have k3 : ∀ b o, s.heap.get? b = some o → s3.heap.get? b = some o := fun b o e => by rw [e3]; exact Heap.get?_push_of_some _ e
 have hsz : s3.heap.objs.size = s.heap.objs.size + 1 := by rw [e3, Heap.size_push]
 have I3 : Inv X pins σ H s3 := by rw [← hs3]; exact I.kept (t' := s.toks) fun b o e => Heap.get?_push_of_some _ e
 have hD3 : s3.heap.get? s.heap.objs.size = some { cls := .type "list", dict := none, data := .seq ([] : List Value).toArray } := by rw [e3]; exact Heap.get?_push_size _ rfl
 generalize hDD : s.heap.objs.size = D at *
 generalize hCC : s3.heap.objs.size = C at *
 have hDC : D < C := by omega
 have hHD : H D = none := I.hok.fresh (Nat.le_of_eq hDD)
 have fpD : FpOk X pins H D := I.fpOk (Nat.le_of_eq hDD) hHD
 have ltD : ∀ (b : Addr) o, s.heap.get? b = some o → b < D := fun b o e => by rw [← hDD]; exact Heap.lt_size e
 have ltC : ∀ (b : Addr) o, s3.heap.get? b = some o → b < C := fun b o e => by rw [← hCC]; exact Heap.lt_size e
 have hflt : ∀ b ∈ fp, b < D := fun b hb => by
  obtain ⟨o, e, _⟩ := T.obj 0 _ st b hb
  exact ltD b o e
 have hex : ∀ b ∈ D :: fp, b < s3.heap.objs.size ∧ FpOk X pins H b := fun b hb => by
  rw [hCC]
  rcases List.mem_cons.mp hb with rfl | hb
  ·exact ⟨hDC, fpD⟩
  ·exact ⟨Nat.lt_trans (hflt b hb) hDC, hf b hb⟩
 have kk : ∀ b o, s3.heap.get? b = some o → h₁.get? b = some o := fun b o e => hsb₁.extBut b o (Nat.ne_of_lt (ltC b o e)) (Heap.get?_push_of_some _ e)
 obtain ⟨hg, hfl, he⟩ := hb C s3 H (D :: fp) (X.pn ++ pins)
 generalize hY : blk X scope ow ci C s3 H (D :: fp) (X.pn ++ pins) = Y at hg hfl he
 have Yprog : Y.prog = X.prog := by rw [← hY]; rfl
 have Yw : Y.w = X.w := by rw [← hY]; rfl
 have YK : Y.K = X.K := by rw [← hY]; rfl
 have YA : Y.A = X.A := by rw [← hY]; rfl
 have Yc : Y.calm = true := by rw [← hY]; exact hc
 have Yenv : Y.env = compEnvC scope (closL X.env scope.names []) C X.env := by rw [← hY]; rfl
 have Yxe : Y.xe = fun _ _ => False := by rw [← hY]; rfl
 have Yfs : Y.fs = frs X.stack := by rw [← hY]; rfl
 have Yex : Y.ex = D :: fp := by rw [← hY]; rfl
 have Ypn : Y.pn = X.pn ++ pins := by rw [← hY]; rfl
 have Ys : Y.s₀ = s3 := by rw [← hY]; rfl
 have YH : Y.H₀ = H := by rw [← hY]; rfl
 have YN : (capS ow.length ci σ).length = Y.N.length := by rw [← hY]; show (capS ow.length ci σ).length = (ow ++ ci.map fun j => X.N.getD j "").length; simp [capS]
 -- own objects of the block are met by its rules
 have own : ∀ b ∈ D :: fp, b ≠ Y.env.locals ∧ b ∉ Y.fs ∧ b ∈ Y.ex ∧ (∀ x c, Y.env.cells.lookup x = some c → c ≠ b) ∧ ∀ p ∈ Y.pn, p.1 ≠ b := fun b hb => by
  obtain ⟨h0, h1, h2, h3, h4, h5⟩ := (hex b hb).2
  refine ⟨by rw [Yenv]; exact Nat.ne_of_lt (hCC ▸ (hex b hb).1), fun z => ?_, by rw [Yex]; exact hb, fun x c e => ?_, by rw [Ypn]; exact h5⟩
  ·rw [Yfs] at z
   rcases List.mem_cons.mp (I.stkSub b z) with q | q
   ·exact h1 q
   ·exact h2 q
  ·rw [Yenv] at e
   exact h4 x c (S.sub I.ok x c e)
 have nDf : D ∉ fp := fun z => Nat.lt_irrefl _ (hflt D z)
 have loop : ∀ s4 : Shared, Inv Y [] (capS ow.length ci σ) H s4 → tn 0 s4.heap → s4.heap.PlainList D #[] →
   codeAny (model X.prog X.w) X.A (.compLoop (.ListComp elt [⟨tg, iter, ifs, 0⟩] scope pos) 0 (.ref it) (.ref D) (compEnvC scope (closL X.env scope.names []) C X.env)) (RR (.ref D) C) s4 := by
  intro s4 J4 st4 pl4
  obtain ⟨m0, w0⟩ := w0
  refine compLoopT (fun n s' => ∃ i ys its H', Inv Y [] (capS ow.length ci σ) H' s' ∧ tn i s'.heap ∧ (∀ b ∈ fp, H' b = none) ∧ H' D = none ∧ s'.heap.PlainList D its ∧ Vals ys its.toList ∧ W i n ys H') ?_ m0
   ⟨0, [], #[], H, J4, st4, fun b hb => (hf b hb).1, hHD, pl4, .nil, w0⟩
  rintro n s5 ⟨i, ys, its, H5, J5, st5, fr5, hD5, ⟨pn5, pl5⟩, va5, w5⟩
  have vl : ys.length = its.size := by have := va5.length; simpa using this
  -- the filled list is pinned while the turn runs
  have pinD : ∀ {H' : Hp} {s' : Shared} {σ' : St}, Inv Y [] σ' H' s' → H' D = none → ∀ {o : Obj}, s'.heap.get? D = some o → (∀ v, o.data ≠ .cell v) → Inv Y [(D, o)] σ' H' s' := fun {H' s' σ'} K hD o e d =>
   K.pins_of fun p hp => by
    have ep : p = (D, o) := by simpa using hp
    subst ep
    obtain ⟨a1, a2, _⟩ := own D List.mem_cons_self
    exact ⟨e, hD, a1, a2, d⟩
  have P5 := pinD J5 hD5 pl5 (fun v z => by cases z)
  have fpk : ∀ {H' : Hp}, (∀ b ∈ fp, H' b = none) → ∀ {o : Obj}, ∀ b ∈ fp, FpOk Y [(D, o)] H' b := fun {H'} hn {o} b hb => by
   obtain ⟨a1, a2, a3, a4, a5⟩ := own b (List.mem_cons_of_mem _ hb)
   refine ⟨hn b hb, a1, a2, .inl a3, a4, fun p hp => ?_⟩
   rcases List.mem_append.mp hp with q | q
   ·exact a5 p q
   ·have ep : p = (D, o) := by simpa using q
    subst ep
    exact fun z => nDf (by have z' : D = b := z; rw [z']; exact hb)
  rcases turn i n ys H5 w5 with ⟨stop, hsz5, z5⟩ | ⟨go, NN, hNN, step⟩
  ·have d := T.done Y Yprog Yw YK Yc i [(D, _)] s5 _ H5 (fun _ _ => False) P5 (fpk fr5) st5 stop
   rw [YA] at d
   refine thn d fun r s6 ⟨hr, J6⟩ => ?_
   subst hr
   have D6 := (J6.pin (D, _) (List.mem_append_right _ List.mem_cons_self)).1
   obtain ⟨mC, hnC, _⟩ := J6.loc
   rw [Yenv] at hnC
   have hnC' : s6.heap.Ns C mC := hnC
   have hC6 : H5 C = none := by have := J6.free; rw [Yenv] at this; exact this
   refine fin D C s6 H5 mC ys ?_ hD5 z5 hnC' (Nat.le_of_lt hDC) (Nat.ne_of_gt hDC) hC6
   have B := J6.base
   rw [Yfs, Yex, YH, Ys] at B
   have low : ∀ b o, s.heap.get? b = some o → b ≠ D ∧ b ≠ C := fun b o e => ⟨Nat.ne_of_lt (ltD b o e), Nat.ne_of_lt (Nat.lt_trans (ltD b o e) hDC)⟩
   have nex : ∀ b o, s.heap.get? b = some o → b ∉ fp → b ∉ D :: fp := fun b o e hb z => by
    rcases List.mem_cons.mp z with q | q
    ·exact (low b o e).1 q
    ·exact hb q
   have uN : Un (frs X.stack) fp H (upd H5 D (.lst ys)) s.heap s6.heap := by
    refine ⟨fun b o e n hb hx => B.keep b o (k3 b o e) n hb (nex b o e hx), fun b o e n hb hx => B.slot b o (k3 b o e) n hb (nex b o e hx), fun b o e n hx => ?_, fun b o e hx => B.there b o (k3 b o e) (nex b o e hx), fun b xs q => ?_, fun b o u q => ?_, fun b ps q => ?_⟩
    ·rw [upd_ne (low b o e).1]; exact B.free b o (k3 b o e) n (nex b o e hx)
    ·rw [upd_ne (ne_of_none (B.tups b xs q) hD5)]; exact B.tups b xs q
    ·rw [upd_ne (ne_of_none (B.frzs b o u q) hD5)]; exact B.frzs b o u q
    ·obtain ⟨mo, q'⟩ := B.tbls b ps q
     exact ⟨mo, by rw [upd_ne (ne_of_none q' hD5)]; exact q'⟩
   have hok6 : HOk X.prog X.w H5 s6.heap := by rw [← Yprog, ← Yw]; exact J6.hok
   have hokN : HOk X.prog X.w (upd H5 D (.lst ys)) s6.heap := fun b u e => by
    by_cases hbD : b = D
    ·subst hbD
     rw [upd_same] at e; cases e
     exact ⟨hsz5, its.toList, _, va5, by simpa using D6⟩
    ·rw [upd_ne hbD] at e
     exact (hok6 b u e).stay (fun c v _ q => q) (fun c q => by rw [upd_ne (ne_of_none q hD5)]; exact q) fun c xs q => by rw [upd_ne (ne_of_none q hD5)]; exact q
   refine I.call' (by rw [J6.os, Ys, ← hs3]) uN hokN J6.bare fun b hb => ?_
   obtain ⟨h0, h1, h2, h3, h4, h5⟩ := hf b hb
   exact ⟨h3, h1, h4, h5⟩
  ·have d := T.item Y Yprog Yw YK Yc i [(D, _)] s5 _ H5 (fun _ _ => False) P5 (fpk fr5) st5 go
   rw [YA] at d
   refine thn d fun r s6 ⟨u, hr, h6⟩ => ?_
   subst hr
   refine thn h6 fun _ s7 ⟨x, H7, J7, r7, y7, st7, fr7⟩ => ?_
   have J7' := J7.pinned (fpk fr7) (T.obj _ _ st7)
   have h8 := hg _ s7 _ H7 x u _ J7' r7 (hk _ _ _ _ (step x H7 y7))
   rw [Yprog, Yw, YA, Yenv, Yxe] at h8
   refine thn h8 fun _ s8 ⟨σ8, H8, J8, ks8, q8⟩ => ?_
   have h9 := hfl _ s8 σ8 H8 _ J8 q8
   rw [Yprog, Yw, YA, Yenv, Yxe] at h9
   refine thn h9 fun b s9 ⟨H9, J9, q9⟩ => ?_
   -- what the pins tell behind the turn
   have back : ∀ {H' : Hp} {s' : Shared}, Inv Y ([(D, ({ cls := .type "list", data := .seq its pn5 } : Obj))] ++ pinsAt fp s7.heap) σ8 H' s' → Inv Y [] (capS ow.length ci σ) H' s' ∧ tn (i + 1) s'.heap ∧ (∀ b ∈ fp, H' b = none) ∧ H' D = none ∧ s'.heap.get? D = some { cls := .type "list", data := .seq its pn5 } := fun {H' s'} K => by
    have pD := K.pin (D, _) (List.mem_append_right _ (List.mem_append_left _ List.mem_cons_self))
    refine ⟨(K.pins_of (pins' := []) (by simp)).forget _ _ _ YN (fun j v hj e => ks8 j v hj e), T.keep _ _ _ st7 fun b hb o e => (K.pin (b, o) (List.mem_append_right _ (List.mem_append_right _ (mem_pinsAt hb e)))).1, fun b hb => ?_, pD.2.1, pD.1⟩
    obtain ⟨o, e, _⟩ := T.obj _ _ st7 b hb
    exact (K.pin (b, o) (List.mem_append_right _ (List.mem_append_right _ (mem_pinsAt hb e)))).2.1
   cases b with
   | false =>
    rw [if_neg Bool.false_ne_true] at q9 ⊢
    obtain ⟨m', hm, w9⟩ := hNN _ _ q9
    obtain ⟨K9, st9, fr9, hD9, e9⟩ := back J9
    exact ⟨m', hm, i + 1, ys, its, H9, K9, st9, fr9, hD9, ⟨_, e9⟩, va5, w9⟩
   | true =>
    rw [if_pos rfl] at q9 ⊢
    have h10 := he _ s9 σ8 H9 _ J9 q9
    rw [Yprog, Yw, YA, Yenv, Yxe] at h10
    refine thn h10 fun z s10 ⟨v, H10, J10, r10, hlt, n10⟩ => ?_
    obtain ⟨m', hm, w10⟩ := hNN _ _ n10
    obtain ⟨K10, st10, fr10, hD10, e10⟩ := back J10
    refine wpAny_list_append_plain (hsz := by rw [← vl]; exact Nat.le_of_lt hlt) ⟨_, e10⟩ fun h11 pl11 hs11 => ?_
    obtain ⟨a1, a2, a3, a4, a5⟩ := own D List.mem_cons_self
    have K11 : Inv Y [] (capS ow.length ci σ) H10 { s10 with heap := h11 } := K10.turned (t' := s10.toks) (fun b o hb e => (hs11.2 b hb).trans e) hD10 a1 (.inl a3) a4 (fun p hp => a5 p (by simpa using hp))
    refine ⟨m', hm, i + 1, ys ++ [v], its.push z, H10, K11, T.keep _ _ _ st10 fun b hb o e => (hs11.2 b (fun q => nDf (q ▸ hb))).trans e, fr10, hD10, pl11, ?_, w10⟩
    rw [Array.toList_push]
    exact va5.append (.cons r10 .nil)
 have J4 : Inv Y [] (capS ow.length ci σ) H { s3 with heap := h₁, toks := s3.toks + ([] : List (Str × Value)).length } := by
  rw [← hY]
  exact blk_start S I3 (Nat.le_of_eq hCC) hex hns₁ kk
 have st4 : tn 0 h₁ := T.keep _ _ _ st fun b _ o e => kk b o (k3 b o e)
 have pl4 : h₁.PlainList D #[] := ⟨_, kk _ _ hD3⟩
 have L := loop _ J4 st4 pl4
 subst hs3
 exact codeAny_compStart_list L (T.self _ 0 _ _ _ st4 L)
variable {wi : TI}
theorem pe_comp (hc : X.calm = true) (S : CompScope X scope ow ci) (hk : GKeeps ow.length g) (hi : PI X tg iter wi)
  (hb : ∀ C s₀ H₀ ex pn, PG (blk X scope ow ci C s₀ H₀ ex pn) tg g ∧ PF (blk X scope ow ci C s₀ H₀ ex pn) ifs tf ∧ PE (blk X scope ow ci C s₀ H₀ ex pn) elt te)
  (hs : ∀ x, foldedSetIterable iter X.env x = pure x := by intro _; rfl) : PE X (.ListComp elt [⟨tg, iter, ifs, 0⟩] scope pos) (tComp wi ow.length ci g tf te) := by
 intro pins s σ H Q I h
 rw [eval_ListComp]
 refine wpAny_comprehension_free (use := none) rfl hs (closureFor_L (S.cells I.ok)) S.kind S.names (thn (hi pins s σ H _ I h) fun v s1 h1 => thn h1 fun itv s2 h2 => ?_)
 obtain ⟨it, fp, tn, J, H2, e, I2, T, st2, f2, W, w0, turn⟩ := h2
 subst e
 refine comp_block (RR := fun acc C => compPost (model X.prog X.w) X.A X.xe none (EP X pins σ Q) acc C) hc S hk hb I2 T st2 f2 (fun ys H => ∀ p, H p = none → Q (.ref p) (upd H p (.lst ys))) W w0 turn fun D C s' H' m ys K hD z hn hC hCD hC0 => ?_
 refine ⟨m, hn, fun h' hs' => ⟨.ref D, upd H' D (.lst ys), ?_, rfl, z D hD⟩⟩
 obtain ⟨f0, f1, f2', f3, f4, f5⟩ := I2.fpOk (H' := upd H' D (.lst ys)) hC (by rw [upd_ne hCD]; exact hC0)
 exact K.turned (t' := s'.toks) (fun b o hb e => (hs'.2 b hb).trans e) f0 f1 f3 f4 f5
theorem ps_setC {i : Nat} {x : Str} {px spos : Pos} (hc : X.calm = true) (S : CompScope X scope ow ci) (hk : GKeeps ow.length g) (hN : X.N.Nodup) (hx1 : X.N[i]? = some x) (hx : Loc X.env.scope x) (hi : PI X tg iter wi)
  (hb : ∀ C s₀ H₀ ex pn, PG (blk X scope ow ci C s₀ H₀ ex pn) tg g ∧ PF (blk X scope ow ci C s₀ H₀ ex pn) ifs tf ∧ PE (blk X scope ow ci C s₀ H₀ ex pn) elt te)
  (hsw : swapsWith (.ListComp elt [⟨tg, iter, ifs, 0⟩] scope pos) (some (.Name x px)) spos.line X.env = pure true := by rfl)
  (hf : X.fn x = true ∨ X.env.scope.names.lookup x = some .local := by first | exact .inl rfl | exact .inr rfl | assumption)
  (hs : ∀ x, foldedSetIterable iter X.env x = pure x := by intro _; rfl) : PS X (.Assign [.Name x px] (.ListComp elt [⟨tg, iter, ifs, 0⟩] scope pos) spos) (tAsg (tComp wi ow.length ci g tf te) (gName i)) := by
 intro pins s σ H D I h
 rw [exec_Assign_Name_used _ _ _ _ hsw]
 refine wpAny_bind (wpAny_standAt (wpAny_bind ?_))
 show wpAny _ X.A (do let _ ← comprehension (.ListComp elt [⟨tg, iter, ifs, 0⟩] scope pos) scope X.env _ (newList []) false (eval iter X.env) (some (assign (.Name x px) X.env))) _ _ s
 refine wpAny_bind (wpAny_mono (wpAny_comprehension_free (use := some (assign (.Name x px) X.env)) (Q := fun _ s' => SP X pins D .next s') rfl hs (closureFor_L (S.cells I.ok)) S.kind S.names
  (thn (hi pins s σ H _ I h) fun v s1 h1 => thn h1 fun itv s2 h2 => ?_)) (fun _ s' hq => wpAny_pure (wpAny_pure hq)) fun _ _ e => e)
 obtain ⟨it, fp, tn, J, H2, e, I2, T, st2, f2, W, w0, turn⟩ := h2
 subst e
 refine comp_block (RR := fun acc C => compPost (model X.prog X.w) X.A X.xe (some (assign (.Name x px) X.env)) (fun _ s' => SP X pins D .next s') acc C) hc S hk hb I2 T st2 f2
  (fun ys H => ∀ p, H p = none → gName i (.ref p) σ (upd H p (.lst ys)) D.nx) W w0 turn fun P C s' H' m ys K hD z hn hC hCD hC0 => ?_
 obtain ⟨f0, f1, f2', f3, f4, f5⟩ := I2.fpOk (H' := upd H' P (.lst ys)) hC (by rw [upd_ne hCD]; exact hC0)
 show wpAny _ X.A (assign (.Name x px) X.env (.ref P)) _ _ s'
 refine wpAny_assign_Name (store_ok2 K hN hx1 hx (v := .ref P) rfl (fun s3 K3 ⟨a, hs3, ha⟩ => ⟨m, hn.sameBut hs3 ?_, fun h' hs' => ?_⟩) hf)
 ·rcases ha with q | q
  ·rw [q]; exact f1
  ·exact fun z => f4 x a q z.symm
 ·exact ⟨_, _, K3.turned (t' := s3.toks) (fun b o hb e => (hs'.2 b hb).trans e) f0 f1 f3 f4 f5, z P hD⟩
theorem comp_range {lo : Int} {n k : Nat} {ci : List Nat} {g : TG} {tf : TT} {te : TE} {σ : St} {H : Hp} {Z : Addr → List V → Hp → Prop} (Pv : Nat → List V → Hp → Prop) (h0 : Pv 0 [] H)
  (hs : ∀ i ys H, i < n → Pv i ys H → g (.int (lo + i)) (capS k ci σ) H fun σ2 H2 => tf σ2 H2 fun b H3 => if b = true then te σ2 H3 fun v H4 => ys.length < sizeLine ∧ Pv (i + 1) (ys ++ [v]) H4 else Pv (i + 1) ys H3)
  (hd : ∀ ys H, Pv n ys H → ys.length ≤ sizeLine ∧ ∀ p, H p = none → Z p ys H) :
  ∃ W : Nat → Nat → List V → Hp → Prop, (∃ m, W 0 m [] H) ∧ ∀ i m ys H, W i m ys H →
   ((Itr lo n).stop i H ∧ ys.length ≤ sizeLine ∧ ∀ p, H p = none → Z p ys H) ∨
   ((Itr lo n).go i H ∧ ∃ N : List V → Hp → Prop, (∀ ys' H', N ys' H' → ∃ m', m' < m ∧ W (i + 1) m' ys' H') ∧ ∀ x H', (Itr lo n).yld i H x H' → g x (capS k ci σ) H' fun σ2 H2 => tf σ2 H2 fun b H3 =>
    if b = true then te σ2 H3 fun v H4 => ys.length < sizeLine ∧ N (ys ++ [v]) H4 else N ys H3) := by
 refine ⟨fun i m ys H => m = n - i ∧ i ≤ n ∧ Pv i ys H, ⟨n, by simp, Nat.zero_le _, h0⟩, ?_⟩
 rintro i m ys H ⟨rfl, hi, p⟩
 by_cases hlt : i < n
 ·refine .inr ⟨hlt, Pv (i + 1), fun ys' H' p' => ⟨n - (i + 1), by omega, rfl, hlt, p'⟩, fun x H' y => ?_⟩
  obtain ⟨e, y⟩ := y
  subst e y
  exact hs i ys _ hlt p
 ·have e : i = n := by omega
  subst e
  exact .inl ⟨Nat.le_refl _, hd ys H p⟩
theorem comp_list {K : PySem.W.Frag} {a : Addr} {xs : List V} {k : Nat} {ci : List Nat} {g : TG} {tf : TT} {te : TE} {σ : St} {H : Hp} {Z : Addr → List V → Hp → Prop} (Pv : Nat → List V → Hp → Prop) (h0 : Pv 0 [] H) (hl : ∀ i ys H, i ≤ xs.length → Pv i ys H → SqL K H a xs)
  (hs : ∀ i x ys H, xs[i]? = some x → Pv i ys H → g x (capS k ci σ) H fun σ2 H2 => tf σ2 H2 fun b H3 => if b = true then te σ2 H3 fun v H4 => ys.length < sizeLine ∧ Pv (i + 1) (ys ++ [v]) H4 else Pv (i + 1) ys H3)
  (hd : ∀ ys H, Pv xs.length ys H → ys.length ≤ sizeLine ∧ ∀ p, H p = none → Z p ys H) :
  ∃ W : Nat → Nat → List V → Hp → Prop, (∃ m, W 0 m [] H) ∧ ∀ i m ys H, W i m ys H →
   ((Itl K a).stop i H ∧ ys.length ≤ sizeLine ∧ ∀ p, H p = none → Z p ys H) ∨
   ((Itl K a).go i H ∧ ∃ N : List V → Hp → Prop, (∀ ys' H', N ys' H' → ∃ m', m' < m ∧ W (i + 1) m' ys' H') ∧ ∀ x H', (Itl K a).yld i H x H' → g x (capS k ci σ) H' fun σ2 H2 => tf σ2 H2 fun b H3 =>
    if b = true then te σ2 H3 fun v H4 => ys.length < sizeLine ∧ N (ys ++ [v]) H4 else N ys H3) := by
 refine ⟨fun i m ys H => m = xs.length - i ∧ i ≤ xs.length ∧ Pv i ys H, ⟨xs.length, by simp, Nat.zero_le _, h0⟩, ?_⟩
 rintro i m ys H ⟨rfl, hi, p⟩
 have q := hl i ys H hi p
 by_cases hlt : i < xs.length
 ·refine .inr ⟨⟨xs, xs[i], q, by simp [hlt]⟩, Pv (i + 1), fun ys' H' p' => ⟨xs.length - (i + 1), by omega, rfl, hlt, p'⟩, fun x H' y => ?_⟩
  obtain ⟨e, y⟩ := y
  subst e
  exact hs i x ys _ (y xs q) p
 ·have e : i = xs.length := by omega
  subst e
  exact .inl ⟨⟨xs, q, Nat.le_refl _⟩, hd ys H p⟩
end
end L2
namespace L2
open PySem PySem.Spec PyProof.Rows
theorem pow_250 : (10 : Nat) ^ 250 < 2 ^ 831 := by decide +kernel
theorem bits_250 {x : Int} (h1 : -10 ^ 250 ≤ x) (h2 : x ≤ 10 ^ 250) : Builtin.Int.intBits x ≤ 1048576 := by
 refine Nat.le_trans (PySem.intBits_le_iff.mpr ?_ : Builtin.Int.intBits x ≤ 831) (by decide)
 have : x.natAbs ≤ 10 ^ 250 := by omega
 exact Nat.lt_of_le_of_lt this pow_250
theorem mulOk {x y : Int} (h1 : -10 ^ 250 ≤ x) (h2 : x ≤ 10 ^ 250) (h3 : -10 ^ 250 ≤ y) (h4 : y ≤ 10 ^ 250) : IntMulOk x y := .of_bits (bits_250 h1 h2) (bits_250 h3 h4)
section
variable {X : Cx}
theorem op_mulB : OpR X (binaryOp .Mult) (rI IntMulOk fun i j => .int (i * j)) := opI fun _ _ _ _ _ _ _ hc q => mul_int q hc
noncomputable def CDivB (_ j : Int) : Prop := 0 < j ∧ j ≤ 10 ^ 250
theorem cdivB {i j : Int} (h1 : 0 < j) (h2 : j ≤ 10 ^ 250) : CDivB i j := ⟨h1, h2⟩
theorem op_fdivB : OpR X (binaryOp .FloorDiv) (rI CDivB fun i j => .int (i / j)) := opI fun i j _ _ _ _ _ hc q => by
 have h1 : (0 : Int) < j := hc.1
 have h2 : j ≤ 10 ^ 250 := hc.2
 refine floordiv_int (by omega) ?_ (.inl (PyProof.noPylong_of_log2 ?_))
 ·rw [Int.fdiv_eq_ediv_of_nonneg _ (by omega)]; exact q
 ·have e : j.natAbs ≤ 10 ^ 250 := by omega
  have g : j.natAbs.log2 < 831 := (Nat.log2_lt (by omega)).mpr (Nat.lt_of_le_of_lt e pow_250)
  omega
theorem call_isi : CallR X (.builtin "isinstance") (fun xs H Q => ∃ x T t b, xs = [x, .ty T] ∧ TyOf X.K H x t ∧ PySem.W.kitOne X.K t (.type T) = some b ∧ Q (.bl b) H) := by
 intro pins s σ H xs us Q I r h
 obtain ⟨x, T, t, b, rfl, ty, e, q⟩ := h
 obtain ⟨u, w', rfl, rx, rT⟩ := vals2 r
 cases (show w' = Value.type T from rT)
 exact isinst_ok I rx ty e fun tk => ⟨.bl b, H, I.tok _, rfl, q⟩
theorem sumG_list {prog : Program} {w : World} {A : Around} {E : Value → Shared → Prop} {s : Shared} {l : Addr} {xs : Array (Int × Tok)} {Q : Value → Shared → Prop} (hh : A.handled = none) (hl : s.heap.IsList l (intItems xs))
  (h : ∀ h' tk t', (∀ b o, s.heap.get? b = some o → h'.get? b = some o) → Q (.int (preSum (numAt xs) xs.size) t') { s with heap := h', toks := tk }) :
  wpAny (model prog w) A (call (.builtin "sum") [.ref l]) Q E s := by
 obtain ⟨o, ho, hc, n, hd⟩ := id hl
 have hne : l ≠ s.heap.objs.size := Nat.ne_of_lt (Heap.lt_size ho)
 have hsz : (intItems xs).size = xs.size := by simp [intItems]
 have W := (Walks.list (prog := prog) (w := w) (A := A.in1) hh s.heap.objs.size l hne (intItems xs)).toS
 rw [hsz] at W
 refine call_sum_walkAnyS (wpAny_pyIter_list hl ?_)
 refine ⟨s.heap.objs.size, _, _, _, _, _, _, numAt xs, rfl, W, ⟨⟨_, Heap.get?_push_size _ rfl, rfl, rfl⟩, hl.at fun o e => Heap.get?_push_of_some _ e⟩, fun b hb => ?_, fun i v hP => intItems_at hP, fun s' t' hm => ?_⟩
 ·rcases List.mem_cons.mp hb with rfl | hb
  ·exact Heap.lt_size (Heap.get?_push_size _ rfl)
  ·obtain rfl := List.mem_singleton.mp hb
   exact Heap.lt_size (Heap.get?_push_of_some _ ho)
 ·obtain ⟨h', g', d', tk', os'⟩ := s'
  have e1 : g' = s.gens := hm.gens
  have e2 : d' = s.drawn := hm.drawn
  have e3 : os' = s.os := hm.os
  subst e1 e2 e3
  exact h h' tk' t' fun b o e => hm.heap b o (fun hb => absurd (Heap.lt_size e) ((List.mem_singleton.mp hb) ▸ Nat.lt_irrefl _)) (Heap.get?_push_of_some _ e)
theorem call_sumL (hc : X.calm = true) : CallR X (.builtin "sum") (fun xs H Q => ∃ (p : Addr) (ns : List Int), xs = [.ref p] ∧ SqL X.K H p (ns.map V.int) ∧ Q (.int ns.sum) H) := by
 intro pins s σ H xs us Q I r h
 obtain ⟨p, ns, rfl, hx, q⟩ := h
 obtain ⟨u, rfl, rx⟩ := vals1 r
 cases rx
 obtain ⟨its, r', pl, hz⟩ := I.list hx
 have hi : IntsAre its ns := intsAre_of r'
 obtain ⟨ys, hy⟩ := hi.allInts.items
 have hn : numsOf its.toArray.toList = ns := by rw [show its.toArray.toList = its from rfl, hi.numsOf]
 have hl := pl.isList
 rw [hy] at hl hn
 rw [nums_intItems] at hn
 refine sumG_list (I.ok.hd hc) hl fun h' tk t' hk => ?_
 rw [preSum_eq, List.take_of_length_le (by simp), hn]
 exact ⟨.int ns.sum, H, I.kept hk, ⟨_, rfl⟩, q⟩
end
end L2
namespace Att
open PySem PySem.W PySem.Calls PyProof.Rows
theorem bits_weight : ∀ (ns : List Int) (x : Int), x ∈ ns → Builtin.Int.intBits x ≤ WData.weightAll (ns.map WData.int)
 | [], _, h => by cases h
 | n :: r, x, h => by
  show _ ≤ WData.weight (.int n) + 1 + WData.weightAll (r.map WData.int)
  rcases List.mem_cons.mp h with e | h
  ·subst e
   have e : Builtin.Int.intBits x = WData.weight (.int x) := by
    unfold Builtin.Int.intBits WData.weight
    rfl
   omega
  ·have := bits_weight r x h
   omega
theorem attach_callB {l : OpenLaw} {n : Nat} {q : Program} {loose : List Str} {XP : (Str → Option Value) → Heap → Prop} {YP : World → Heap → Prop} {d : DefRec}
  (hn : l.most = some n) (hdf : d.params.defaults = [])
  (call : ∀ (w : World) (s₀ s₁ : Shared) (mg mb : Str → Option Value) (fa : Addr) (o : Obj) (pm cd doc : Value) (a : Addr) (vs : List Value) (ns : List Int),
   Ground q loose [] XP w s₀ mg mb s₁.heap → YP w s₁.heap →
   s₁.heap.get? fa = some o → o.data = .func (docDef d.name d.params d.body d.scope pm cd doc) → s₁.heap.CodeRec cd d.name → mg d.name = some (.ref fa) →
   s₁.heap.get? a = some { cls := .type "list", data := .seq vs.toArray } → IntsAre vs ns → ns.length ≤ n → (∀ x ∈ ns, Builtin.Int.intBits x ≤ 1048576) → s₁.gens = #[] →
   codeAny (model l.prog w) callerA (.call (.ref fa) ⟨[.ref a], []⟩) (fun r s' => r = .ok (.ret (.bool true)) ∧ OldK s₁.heap s'.heap ∧ s'.os = s₁.os ∧ AllBare s'.gens) s₁) :
  WalkO q loose XP YP l.row.toRowW d [] (fun f vs => PySem.call f vs) := by
 intro w s₀ s₁ mg mb G Y fa o pm cd doc dV kV ho hd hcd hD hmg hg args vals as hpre hlay hrd hwl hlo
 obtain rfl : dV = .none := Dflts.none hD hdf
 obtain rfl : kV = .none := Dflts.noKw hD
 obtain ⟨a, vs, ns, rfl, rfl, hobj, hints, hlen⟩ := script_of hn hpre hwl
 have hbits : ∀ x ∈ ns, Builtin.Int.intBits x ≤ 1048576 := by
  have hw : (WData.list (ns.map WData.int)).weight ≤ 2 ^ 20 := (layableW_iff.mp (layW_cons hlay).1).2.2
  intro x hx
  exact Nat.le_trans (bits_weight ns x hx) hw
 refine enter_call (codeAny_mono (call w s₀ s₁ mg mb fa o pm cd doc a vs ns G Y ho (fd_plain hd) hcd hmg hobj hints hlen hbits hg) fun r s' hq => ?_)
 obtain ⟨rfl, h2, h3, h4⟩ := hq
 exact ⟨.inl ⟨.bool true, .bool true, [], rfl, fun _ => rfl, .bool true, post_true l _, fun _ => ⟨List.Pairwise.nil, fun _ hm => (nomatch hm)⟩⟩, h2, h3, h4⟩
end Att
namespace L2
open PySem PySem.Spec PyProof.Rows
theorem walk_ofB {l : PySem.W.OpenLaw} {n k : Nat} {q : Program} {loose : List Str} {XP : (Str → Option Value) → Heap → Prop} {YP : World → Heap → Prop} {d : DefRec} {K : Params → PySem.W.Frag} {CX : CXT} {sp : PySem.W.Frag → Sp} {x : Str}
  (hn : l.most = some n) (hn2 : n ≤ sizeLine) (hdf : d.params.defaults = []) (hr : Room k callerA)
  (hY : ∀ (w : World) (h : Heap), YP w h → (K w.params).In h)
  (F : ∀ (w : World) (mg : Str → Option Value) (fa : Addr) (h : Heap), (K w.params).In h → h.Ns mainGlobals mg → mg d.name = some (.ref fa) →
   ∃ fd : FuncData, (∀ (s : Shared) (u : Value), BindsTo s fd ⟨[u], []⟩ [(x, u)]) ∧
    ∀ base : Heap, (K w.params).In base → base.Ns mainGlobals mg → FnOk l.prog w (K w.params) mg base CX k fa fd [x] (sp (K w.params)))
  (hsp : ∀ (K : PySem.W.Frag) (H : Hp) (a : Addr) (ns : List Int), ns.length ≤ n → (∀ x ∈ ns, Builtin.Int.intBits x ≤ 1048576) → Only H → SqL K H a (ns.map V.int) → sp K [.ref a] H (fun v _ => v = .bl true) fun _ _ _ => False)
  (hCX : ∀ (H : Hp) (s : Shared) (e : Value) (s' : Shared), CX [] H s (fun _ _ _ => False) e s' → False) :
  PySem.W.WalkO q loose XP YP l.row.toRowW d [] (fun f vs => PySem.call f vs) := by
 refine Att.attach_callB hn hdf fun w s₀ s₁ mg mb fa o pm cd doc a vs ns G Y ho hd hcd hmg hobj hints hlen hbits hg => ?_
 have KX := hY w _ Y
 obtain ⟨fd, hb, hF⟩ := F w mg fa _ KX G.T.g hmg
 exact law_call KX G.T.g G.T.b G.T.builtins G.T.nolimit hg hobj hints (Nat.le_trans hlen hn2) hr hF hb (fun H hO hS => hsp _ H a ns hlen hbits hO hS) fun H e s' => hCX H s₁ e s'
end L2
namespace L2
open PySem PySem.Spec PyProof.Rows
structure FunD (K : PySem.W.Frag) (x qual : Str) (st : Stmt) (T : Addr) (f : Addr) (fd : FuncData) : Prop where
 ex : ∃ (oc : Value) (od : Option Addr) (kV doc pm : Value) (an : Option Addr) (cdv ct : Value) (osl : Array (Option Value)),
  fd = PySem.W.fnOf x qual (defArgs st) (defBody st) (defScope st) (.ref T) kV doc pm an cdv ct ∧ K.lookup f = some ⟨oc, od, .func fd, osl⟩ ∧ PySem.W.codeIn K cdv qual = true
 kp : PySem.W.keepIn K (.ref f) = true
section
variable {P : Program} {w : World} {K : PySem.W.Frag} {mg : Str → Option Value} {base : Heap}
end
end L2
namespace L2
open PySem PySem.Spec PyProof.Rows
theorem SP.nx {X : Cx} {pins : List (Addr × Obj)} {D : Ends} {R : St → Hp → Prop} (hR : ∀ σ' H', R σ' H' → D.nx σ' H') {f : Flow} {s : Shared} (h : SP X pins { D with nx := R } f s) : SP X pins D f s := by
 cases f with
 | next => obtain ⟨σ', H', I, q⟩ := h; exact ⟨σ', H', I, hR _ _ q⟩
 | brk => exact h
 | cont => exact h
 | ret u => exact h
noncomputable def tIfJ (c : TT) (t u : TS) : TS := fun D σ H => ∃ R : St → Hp → Prop, (∀ σ' H', R σ' H' → D.nx σ' H') ∧ tIfS c t u { D with nx := R } σ H
theorem ps_ifJ {X : Cx} {pos : Pos} {t u : TS} {c : Expr} {a b : List Stmt} {tc : TT} (hc : PT X c tc) (ha : PSs X a t) (hb : PSs X b u) : PS X (.If c a b pos) (tIfJ tc t u) := by
 intro pins s σ H D I h
 obtain ⟨R, hR, h⟩ := h
 exact thn (ps_if hc ha hb pins s σ H _ I h) fun f s' q => q.nx hR
end L2
namespace L2
open PySem
theorem bt_len : bootBuiltins "len" = some (.builtin "len") := by decide +kernel
theorem bt_max : bootBuiltins "max" = some (.builtin "max") := by decide +kernel
theorem bt_min : bootBuiltins "min" = some (.builtin "min") := by decide +kernel
theorem bt_sum : bootBuiltins "sum" = some (.builtin "sum") := by decide +kernel
theorem bt_isinstance : bootBuiltins "isinstance" = some (.builtin "isinstance") := by decide +kernel
theorem bt_sorted : bootBuiltins "sorted" = some (.builtin "sorted") := by decide +kernel
theorem bt_int : bootBuiltins "int" = some (.type "int") := by decide +kernel
theorem bt_str : bootBuiltins "str" = some (.type "str") := by decide +kernel
theorem bt_bool : bootBuiltins "bool" = some (.type "bool") := by decide +kernel
theorem bt_list : bootBuiltins "list" = some (.type "list") := by decide +kernel
theorem bt_dict : bootBuiltins "dict" = some (.type "dict") := by decide +kernel
theorem bt_enumerate : bootBuiltins "enumerate" = some (.type "enumerate") := by decide +kernel
theorem bt_zip : bootBuiltins "zip" = some (.type "zip") := by decide +kernel
end L2
namespace L2
open PySem
theorem kit_same (K : PySem.W.Frag) (t : Value) (h : (t == t) = true) : PySem.W.kitOne K t t = some true := by unfold PySem.W.kitOne; rw [if_pos h]
theorem kit_other (K : PySem.W.Frag) {a b : String} {v : Bool} (h0 : (Value.type a == Value.type b) = false) (h1 : PySem.W.kitMeta b = true) (h2 : PySem.W.subIn [] (.type a) (.type b) = some v) : PySem.W.kitOne K (.type a) (.type b) = some v := by
 unfold PySem.W.kitOne
 rw [if_neg (by rw [h0]; exact Bool.false_ne_true)]
 show (if PySem.W.kitMeta b = true then _ else _) = _
 rw [if_pos h1]
 exact h2
theorem i_int_int {K : PySem.W.Frag} : PySem.W.kitOne K (.type "int") (.type "int") = some true := kit_same K _ (by decide +kernel)
theorem i_int_bool {K : PySem.W.Frag} : PySem.W.kitOne K (.type "int") (.type "bool") = some false := kit_other K (by decide +kernel) (by decide +kernel) (by decide +kernel)
theorem i_int_str {K : PySem.W.Frag} : PySem.W.kitOne K (.type "int") (.type "str") = some false := kit_other K (by decide +kernel) (by decide +kernel) (by decide +kernel)
theorem i_str_str {K : PySem.W.Frag} : PySem.W.kitOne K (.type "str") (.type "str") = some true := kit_same K _ (by decide +kernel)
theorem i_list_list {K : PySem.W.Frag} : PySem.W.kitOne K (.type "list") (.type "list") = some true := kit_same K _ (by decide +kernel)
end L2
namespace L2
open PySem
end L2
namespace L2
open PySem PySem.Spec PyProof.Rows
section
variable {X : Cx} {tg : Expr}
theorem sl_str : SlR X (fun x lo hi H Q => ∃ z, x = .str z ∧ z.length ≤ sizeLine ∧ Q (.str (Txt.slice z lo hi)) H) := by
 intro pins s σ H x v vl vu lo hi sl Q I rx hs pl pu h
 obtain ⟨z, rfl, hz, q⟩ := h
 obtain ⟨t, rfl⟩ := rx
 refine ⟨"str", _, F.slot_str_getitem.lookup, typeIs_str _ _ _, ?_⟩
 have fin : ∀ (lo hi : Option Int), Q (.str (Txt.slice z lo hi)) H → ∀ t' k, EP X pins σ Q (.str (Txt.slice z lo hi) t') { s with toks := k } := fun lo hi q t' k => ⟨.str _, H, I.tok _, ⟨_, rfl⟩, q⟩
 cases pl with
 | none =>
  cases pu with
  | none => exact wpAny_getItem_str_slice (l := none) (u := none) (st := none) hs rfl (post_val_or_str ⟨Nat.le_trans (Txt.slice_le z _ _) hz, fin _ _ q⟩)
  | int j uj => exact wpAny_getItem_str_slice (l := none) (u := some (j, uj)) (st := none) hs rfl (post_val_or_str ⟨Nat.le_trans (Txt.slice_le z _ _) hz, fin _ _ q⟩)
 | int i ui =>
  cases pu with
  | none => exact wpAny_getItem_str_slice (l := some (i, ui)) (u := none) (st := none) hs rfl (post_val_or_str ⟨Nat.le_trans (Txt.slice_le z _ _) hz, fin _ _ q⟩)
  | int j uj => exact wpAny_getItem_str_slice (l := some (i, ui)) (u := some (j, uj)) (st := none) hs rfl (post_val_or_str ⟨Nat.le_trans (Txt.slice_le z _ _) hz, fin _ _ q⟩)
theorem rd_str {z : Str} {R : Str → Prop} (h : R z) : ∃ z', V.str z = .str z' ∧ R z' := ⟨z, rfl, h⟩
end
end L2
namespace L2
open PySem PySem.Spec PyProof.Rows
section
variable {X : Cx} {K : PySem.W.Frag}
theorem ix_listK (e : X.K = K) : IxR X (rIxL K) := by subst e; exact ix_list
theorem ix_tupK (e : X.K = K) : IxR X (rIxT K) := by subst e; exact ix_tup
theorem op_in_seqK (e : X.K = K) : OpR X (compareOp .In) (rIn K false) := by subst e; exact op_in_seq
end
end L2
namespace L2
open PySem PySem.Spec PyProof.Rows
mutual
inductive DV (H : Hp) : V → PyData → Prop
 | non : DV H .non .none
 | bl (b : Bool) : DV H (.bl b) (.bool b)
 | int (i : Int) : DV H (.int i) (.int i)
 | str (x : Str) : DV H (.str x) (.str x)
 | lst {a : Addr} {xs : List V} {ds : List PyData} : H a = some (.lst xs) → DVs H xs ds → DV H (.ref a) (.list ds)
 | tup {a : Addr} {xs : List V} {ds : List PyData} : H a = some (.tup xs) → DVs H xs ds → DV H (.ref a) (.tuple ds)
inductive DVs (H : Hp) : List V → List PyData → Prop
 | nil : DVs H [] []
 | cons {x : V} {d : PyData} {xs : List V} {ds : List PyData} : DV H x d → DVs H xs ds → DVs H (x :: xs) (d :: ds)
end
mutual
theorem DV.mono {H H' : Hp} (k : Same H H') : ∀ {v : V} {d : PyData}, DV H v d → DV H' v d
 | _, _, .non => .non
 | _, _, .bl b => .bl b
 | _, _, .int i => .int i
 | _, _, .str x => .str x
 | _, _, .lst e r => .lst (k _ _ e) (DVs.mono k r)
 | _, _, .tup e r => .tup (k _ _ e) (DVs.mono k r)
theorem DVs.mono {H H' : Hp} (k : Same H H') : ∀ {vs : List V} {ds : List PyData}, DVs H vs ds → DVs H' vs ds
 | _, _, .nil => .nil
 | _, _, .cons a r => .cons (DV.mono k a) (DVs.mono k r)
end
section
variable {X : Cx}
mutual
theorem dv_reads {pins : List (Addr × Obj)} {s : Shared} {σ : St} {H : Hp} (I : Inv X pins σ H s) : ∀ {v : V} {d : PyData} {u : Value}, DV H v d → RelV v u → ∃ as, Reads s.heap u d as
 | _, _, _, .non, r => ⟨_, by cases r; exact Reads.none⟩
 | _, _, _, .bl b, r => ⟨_, by cases r; exact Reads.bool b⟩
 | _, _, _, .int i, r => by obtain ⟨t, rfl⟩ := r; exact ⟨_, Reads.int i t⟩
 | _, _, _, .str x, r => by obtain ⟨t, rfl⟩ := r; exact ⟨_, Reads.str x t⟩
 | _, _, _, .lst e q, r => by
  cases r
  obtain ⟨_, its, c, rv, he⟩ := I.hok _ _ e
  obtain ⟨as, ra⟩ := dvs_reads I q rv
  exact ⟨_, reads_list_at he rfl rfl (by simpa using ra)⟩
 | _, _, _, .tup e q, r => by
  cases r
  obtain ⟨its, rv, pl, _⟩ := I.tuple (SqT.of e)
  obtain ⟨o, ho, hc, n, hd⟩ := pl
  obtain ⟨as, ra⟩ := dvs_reads I q rv
  exact ⟨_, reads_tuple_at ho hc hd (by simpa using ra)⟩
theorem dvs_reads {pins : List (Addr × Obj)} {s : Shared} {σ : St} {H : Hp} (I : Inv X pins σ H s) : ∀ {vs : List V} {ds : List PyData} {us : List Value}, DVs H vs ds → Vals vs us → ∃ as, ReadsAll s.heap us ds as
 | _, _, _, .nil, r => by cases r; exact ⟨_, ReadsAll.nil⟩
 | _, _, _, .cons a q, r => by
  cases r with
  | cons r1 r2 =>
   obtain ⟨as, ra⟩ := dv_reads I a r1
   obtain ⟨bs, rb⟩ := dvs_reads I q r2
   exact ⟨_, ReadsAll.cons ra rb⟩
end
theorem op_eqD (hu : X.A.units + 64 < cLine) : OpR X (compareOp .Eq) (fun x y H Q => ∃ d e, DV H x d ∧ DV H y e ∧ SeqAt.shaped d = true ∧ SeqAt.shaped e = true ∧ Q (.bl (PyData.eqv d e)) H) := by
 intro pins s σ H x y v u Q I rx ry h
 obtain ⟨d, e, hd, he, sd, se, q⟩ := h
 obtain ⟨as, ra⟩ := dv_reads I hd rx
 obtain ⟨bs, rb⟩ := dv_reads I he ry
 exact eq_dataH ra rb sd se hu ⟨.bl _, H, I, rfl, q⟩
theorem call_maxL (hc : X.calm = true) : CallR X (.builtin "max") (fun xs H Q => ∃ (p : Addr) (ns : List Int), xs = [.ref p] ∧ SqL X.K H p (ns.map V.int) ∧ 0 < ns.length ∧ ∀ m ∈ ns, (∀ a ∈ ns, a ≤ m) → Q (.int m) H) := by
 intro pins s σ H xs us Q I r h
 obtain ⟨p, ns, rfl, hx, hne, q⟩ := h
 obtain ⟨u, rfl, rx⟩ := vals1 r
 cases rx
 obtain ⟨its, r', pl, _⟩ := I.list hx
 have hi := intsAre_of r'
 have hl := pl.isList
 obtain ⟨xs, e⟩ := hi.allInts.items
 have hns : ns = xs.toList.map (·.1) := by rw [← hi.numsOf, ← nums_intItems, ← e]
 have hsz : 0 < xs.size := by
  have h3 := hne; rw [hns, List.length_map, Array.length_toList] at h3; exact h3
 rw [e] at hl
 refine max_intList (I.ok.hd hc) hl hsz fun v h' tk hv hk => ?_
 obtain ⟨t, rfl⟩ := intItems_at hv
 obtain ⟨h1, h2⟩ := argBest_gt (numAt xs) (xs.size - 1)
 refine ⟨.int _, H, I.kept (t' := tk) hk, ⟨_, rfl⟩, q _ ?_ fun a ha => ?_⟩
 ·rw [hns, numAt_eq]; exact getD_mem (by rw [List.length_map, Array.length_toList]; omega)
 ·rw [hns] at ha
  obtain ⟨j, hj, rfl⟩ := mem_getD ha
  rw [List.length_map, Array.length_toList] at hj
  rw [← numAt_eq]; exact h2 j (by omega)
end
section
variable {σ : St} {H : Hp} {Q : VK}
theorem rd_dget {td ty : TE} (h : td σ H fun x H1 => ty σ H1 fun y H2 => ∃ a v, x = .ref a ∧ DGet H2 a y (some v) ∧ Q v H2) : tDGet td ty σ H Q := h
end
end L2
namespace L2
open PySem PySem.Spec PyProof.Rows
noncomputable def TabK (K : PySem.W.Frag) (a : Addr) (D : List (Str × PyProof.Rows.KTD.Dat)) : Prop := PyProof.Rows.KTD.tabLook (PyProof.Rows.KTD.datLooks fun b => K.lookup b) (fun b => K.lookup b) a D = true
section
variable {X : Cx}
theorem op_inT : OpR X (compareOp .In) (fun x y H Q => ∃ a k D, x = .str k ∧ y = .ref a ∧ TabK X.K a D ∧ Q (.bl (PyProof.Rows.KTD.inKeys k D)) H) := by
 intro pins s σ H x y v u Q I rx ry h
 obtain ⟨a, k, D, rfl, rfl, T, q⟩ := h
 obtain ⟨t, rfl⟩ := rx
 cases ry
 exact PyProof.Rows.KTD.in_text (h₀ := s.heap) ⟨PySem.W.kt_text_in I.kIn T, fun _ _ e => e⟩ ⟨.bl _, H, I.tok _, rfl, q⟩
end
theorem comp_tup {K : PySem.W.Frag} {a : Addr} {xs : List V} {k : Nat} {ci : List Nat} {g : TG} {tf : TT} {te : TE} {σ : St} {H : Hp} {Z : Addr → List V → Hp → Prop} (Pv : Nat → List V → Hp → Prop) (h0 : Pv 0 [] H) (hl : ∀ i ys H, i ≤ xs.length → Pv i ys H → SqT K H a xs)
  (hs : ∀ i x ys H, xs[i]? = some x → Pv i ys H → g x (capS k ci σ) H fun σ2 H2 => tf σ2 H2 fun b H3 => if b = true then te σ2 H3 fun v H4 => ys.length < sizeLine ∧ Pv (i + 1) (ys ++ [v]) H4 else Pv (i + 1) ys H3)
  (hd : ∀ ys H, Pv xs.length ys H → ys.length ≤ sizeLine ∧ ∀ p, H p = none → Z p ys H) :
  ∃ W : Nat → Nat → List V → Hp → Prop, (∃ m, W 0 m [] H) ∧ ∀ i m ys H, W i m ys H →
   ((Itt K a).stop i H ∧ ys.length ≤ sizeLine ∧ ∀ p, H p = none → Z p ys H) ∨
   ((Itt K a).go i H ∧ ∃ N : List V → Hp → Prop, (∀ ys' H', N ys' H' → ∃ m', m' < m ∧ W (i + 1) m' ys' H') ∧ ∀ x H', (Itt K a).yld i H x H' → g x (capS k ci σ) H' fun σ2 H2 => tf σ2 H2 fun b H3 =>
    if b = true then te σ2 H3 fun v H4 => ys.length < sizeLine ∧ N (ys ++ [v]) H4 else N ys H3) := by
 refine ⟨fun i m ys H => m = xs.length - i ∧ i ≤ xs.length ∧ Pv i ys H, ⟨xs.length, by simp, Nat.zero_le _, h0⟩, ?_⟩
 rintro i m ys H ⟨rfl, hi, p⟩
 have q := hl i ys H hi p
 by_cases hlt : i < xs.length
 ·refine .inr ⟨⟨xs, xs[i], q, by simp [hlt]⟩, Pv (i + 1), fun ys' H' p' => ⟨xs.length - (i + 1), by omega, rfl, hlt, p'⟩, fun x H' y => ?_⟩
  obtain ⟨e, y⟩ := y
  subst e
  exact hs i x ys _ (y xs q) p
 ·have e : i = xs.length := by omega
  subst e
  exact .inl ⟨⟨xs, q, Nat.le_refl _⟩, hd ys H p⟩
theorem rd_iTup {K : PySem.W.Frag} {te : TE} {σ : St} {H : Hp} {R : It → Hp → Prop} (h : te σ H fun x H1 => ∃ a, x = .ref a ∧ (∃ xs, SqT K H1 a xs) ∧ R (Itt K a) H1) : iTup K te σ H R := h
theorem rd_gT2 {K : PySem.W.Frag} {i j : Nat} {a : Addr} {x y : V} {σ : St} {H : Hp} {R : St → Hp → Prop} (e : SqT K H a [x, y]) (h : gName i x σ H fun σ' H' => gName j y σ' H' R) : gTup K 2 (gCons (gName i) (gCons (gName j) gNil)) (.ref a) σ H R :=
 ⟨a, [x, y], rfl, e, rfl, x, [y], rfl, y, [], rfl, rfl, h⟩
theorem rd_sub {to ti : TE} {t : TSet} {v : V} {σ : St} {H : Hp} {R : St → Hp → Prop} (h : to σ H fun o H1 => ti σ H1 fun i H2 => t o i v H2 fun H3 => R σ H3) : gSub to ti t v σ H R := h
theorem rd_dnew {σ : St} {H : Hp} {Q : VK} (h : ∀ p, H p = none → Q (.ref p) (upd H p (.dK []))) : tDNewK σ H Q := h
theorem rd_dput {td ty tv : TE} {σ : St} {H : Hp} {D : Ends} (h : tv σ H fun v H1 => td σ H1 fun x H2 => ty σ H2 fun y H3 => ∃ a H4, x = .ref a ∧ DPut H3 a y v H4 ∧ D.nx σ H4) : sDPut td ty tv D σ H := h
theorem rd_bm0 {K : PySem.W.Frag} {T : String} {r : V → List V → Hp → VK → Prop} {to : TE} {σ : St} {H : Hp} {Q : VK} (h : to σ H fun x H1 => tyV K T x H1 ∧ r x [] H1 Q) : tBM0 K T r to σ H Q := h
end L2
namespace L2
open PySem PySem.Spec PyProof.Rows
section
variable {X : Cx} {pins : List (Addr × Obj)} {σ : St} {H : Hp} {s : Shared} {h' : Heap}
theorem Inv.turnedL {t' : Nat} {ch : List Addr} (I : Inv X pins σ H s) (hf : ∀ b ∈ ch, FpOk X pins H b) (k : ∀ b o, b ∉ ch → s.heap.get? b = some o → h'.get? b = some o) : Inv X pins σ H { s with heap := h', toks := t' } := by
 have nit : ∀ b u, H b = some u → b ∉ ch := fun b u e z => by rw [(hf b z).1] at e; cases e
 refine I.step (g' := s.gens) (d' := s.drawn) (ch := ch) (fun b hb => ?_) (fun b o _ _ hc e _ => k b o hc e) (fun b o _ _ hc e _ => ⟨o.slots, k b o hc e⟩) (fun _ _ _ _ n => n)
  (fun b o hc e => ⟨o, k b o hc e⟩) (fun _ _ e => e) (fun _ _ _ e => e) (fun b ps e => ⟨#[], by rw [e]; simp⟩) (fun m hm => ?_) (fun b u e => ?_) I.bare
 ·obtain ⟨_, f1, _, f3, f4, f5⟩ := hf b hb
  exact ⟨f3, f1, f4, f5⟩
 ·obtain ⟨o, es, ep, ho, r⟩ := hm
  exact ⟨o, es, ep, k _ o (fun z => (hf _ z).2.1 rfl) ho, r⟩
 ·refine (I.hok b u e).stay (fun c v hc q => k c v ?_ q) (fun _ q => q) fun _ _ q => q
  rcases hc with z | z
  ·rw [z]; exact nit b u e
  ·exact nit c _ z
theorem Inv.pair {t' : Nat} {ch : List Addr} {x y : V} {u v : Value} (I : Inv X pins σ H s) (hf : ∀ b ∈ ch, FpOk X pins H b) (hl : ∀ b ∈ ch, b < s.heap.objs.size) (rx : RelV x u) (ry : RelV y v)
  (hT : h'.get? s.heap.objs.size = some { cls := .type "tuple", data := .seq #[u, v] }) (k : ∀ b o, b ∉ ch → s.heap.get? b = some o → h'.get? b = some o) :
  Inv X pins σ (upd H s.heap.objs.size (.tup [x, y])) { s with heap := h', toks := t' } ∧ ∀ b ∈ ch, FpOk X pins (upd H s.heap.objs.size (.tup [x, y])) b := by
 have f : ∀ b ∈ ch, FpOk X pins (upd H s.heap.objs.size (.tup [x, y])) b := fun b hb => ⟨(upd_ne (Nat.ne_of_lt (hl b hb))).trans (hf b hb).1, (hf b hb).2⟩
 have I1 : Inv X pins σ (upd H s.heap.objs.size (.tup [x, y])) { s with heap := s.heap.push { cls := .type "tuple", data := .seq #[u, v] }, toks := t' } :=
  I.laid (t' := t') (fun b o e => Heap.get?_push_of_some _ e) (Nat.le_refl _) (show ObjOk X.prog X.w _ _ _ (.tup [x, y]) from ⟨(by show 2 ≤ sizeLine; decide), [u, v], .cons rx (.cons ry .nil), IsTup.new _ _⟩)
 refine ⟨I1.turnedL (h' := h') (t' := t') f fun b o hb e => ?_, f⟩
 rcases Heap.get?_push_cases e with ⟨rfl, rfl⟩ | e
 ·exact hT
 ·exact k b o hb e
end
noncomputable def Ite (K : PySem.W.Frag) (a : Addr) : It :=
 ⟨fun i H => ∃ xs x, SqL K H a xs ∧ xs[i]? = some x, fun i H x H' => ∃ T v, x = .ref T ∧ H T = none ∧ H' = upd H T (.tup [.int i, v]) ∧ ∀ xs, SqL K H a xs → xs[i]? = some v, fun i H => ∃ xs, SqL K H a xs ∧ xs.length ≤ i⟩
theorem turn_enum {P : Program} {w : World} {K : PySem.W.Frag} {elts : List Expr} {k : Nat} {pos : Pos} (a e it : Addr) (hne : e ≠ it) :
  Turn P w K (.Tuple elts k pos) (Ite K a) [e, it] e (fun i h => (∃ old, IsEnum h e it ((i : Nat) : Int) old) ∧ h.IsListIter it a i) where
 mem := by simp
 obj := fun i h st b hb => by
  rcases (by simpa using hb : b = e ∨ b = it) with rfl | rfl
  ·obtain ⟨old, he⟩ := st.1
   exact ⟨_, he, fun v z => by cases z⟩
  ·obtain ⟨o, e, c, d⟩ := st.2
   exact ⟨o, e, fun v z => by rw [d] at z; cases z⟩
 keep := fun i h h' st k => ⟨let ⟨old, he⟩ := st.1; ⟨old, k e (by simp) _ he⟩, st.2.at fun o q => k it (by simp) o q⟩
 item := by
  intro X hP hw hK hc i pins s σ H E I hf st hg
  subst hP hw hK
  obtain ⟨xs, x, hq, hx⟩ := hg
  obtain ⟨its, rv, p, hz⟩ := I.list hq
  obtain ⟨u, hu, ru⟩ := rv.get hx
  obtain ⟨⟨old, he⟩, hit⟩ := st
  have le : e < s.heap.objs.size := Heap.lt_size he
  have li : it < s.heap.objs.size := by obtain ⟨o, q, _⟩ := id hit; exact Heap.lt_size q
  refine wpAny_pyNext_enum_item he hit p.isList (x := u) (by simpa using hu) hne fun h' ho hit' hT hsz hk => ?_
  obtain ⟨I1, f1⟩ := I.pair (t' := s.toks + 1) (ch := [e, it]) (x := .int i) (y := x) hf (fun b hb => by rcases (by simpa using hb : b = e ∨ b = it) with rfl | rfl <;> assumption) ⟨s.toks, rfl⟩ ru hT
   (fun b o hb q => hk b o (fun z => hb (by simp [z])) (fun z => hb (by simp [z])) q)
  refine ⟨_, rfl, wpAny_letOwnedTupleGo_enum ho fun h2 he2 sb => ?_⟩
  have I2 := I1.turnedL (h' := h2) (t' := s.toks + 1) (ch := [e, it]) f1 fun b o hb q => (sb.2 b fun z => hb (by simp [z])).trans q
  exact ⟨.ref s.heap.objs.size, _, I2, rfl, ⟨_, x, rfl, I.hok.fresh (Nat.le_refl _), rfl, fun ys hy => by rw [I.list_inj hy hq]; exact hx⟩,
   ⟨⟨u, by simpa using he2⟩, hit'.at fun o q => (sb.2 it hne.symm).trans q⟩, fun b hb => (f1 b hb).1⟩
 done := by
  intro X hP hw hK hc i pins s σ H E I hf st hg
  subst hP hw hK
  obtain ⟨xs, hq, hx⟩ := hg
  obtain ⟨its, rv, p, hz⟩ := I.list hq
  obtain ⟨⟨old, he⟩, hit⟩ := st
  have hl := rv.length
  exact wpAny_pyNext_enum_end (I.ok.hd hc) he hit p.isList (by simp; omega) fun h' eb => ⟨rfl, I.turnedL (t' := s.toks) (ch := [e, it]) hf fun b o hb q => eb b o (fun z => hb (by simp [z])) q⟩
 self := fun _ _ _ _ _ st h => let ⟨_, he⟩ := st.1; wpAny_pyIter_enum he h
noncomputable def iEnum (K : PySem.W.Frag) (ta : TA) : TI := fun σ H R => ta σ H fun vs H1 => ∃ a xs, vs = [.ref a] ∧ SqL K H1 a xs ∧ R (Ite K a) H1
theorem pi_enum {X : Cx} {a : Expr} {ta : TA} {elts : List Expr} {k : Nat} {p pos pos' : Pos} (hg : Gl X "enumerate") (hm : X.mg "enumerate" = none) (ha : PA X [a] ta) (hs : starEach [a] X.env = [(false, eval a X.env)] := by rfl) :
  PI X (.Tuple elts k pos') (.Call (.Name "enumerate" p) [a] [] pos) (iEnum X.K ta) := by
 intro pins s σ H R I h
 refine Call_ (ld_blt I hg hm bt_enumerate (PyProof.Rows.callWith_type1 (thn (ha pos pins s σ H _ I h) fun us s1 ⟨vs, H1, I1, r1, q1⟩ => ?_) hs rfl))
 obtain ⟨b, xs, rfl, hq, q⟩ := q1
 obtain ⟨u, rfl, ru⟩ := vals1 r1
 cases ru
 obtain ⟨its, rv, p, hz⟩ := I1.list hq
 refine call_enumerate_list p.isList fun h' he hit hsz hk => ?_
 refine wpAny_pyIter_enum he ?_
 refine ⟨s1.heap.objs.size + 1, [s1.heap.objs.size + 1, s1.heap.objs.size], _, _, H1, rfl, I1.kept (t' := s1.toks) hk, turn_enum b _ _ (Nat.succ_ne_self _), ⟨⟨_, by simpa using he⟩, hit⟩, fun c hc => ?_, q⟩
 rcases (by simpa using hc : c = s1.heap.objs.size + 1 ∨ c = s1.heap.objs.size) with rfl | rfl
 ·exact I1.fpOk (Nat.le_succ _) (I1.hok.fresh (Nat.le_succ _))
 ·exact I1.fpOk (Nat.le_refl _) (I1.hok.fresh (Nat.le_refl _))
theorem for_enum {K : PySem.W.Frag} {a : Addr} {xs : List V} {g : TG} {tb : TS} {D : Ends} {σ : St} {H : Hp} (Pv : Nat → St → Hp → Prop) (h0 : Pv 0 σ H) (hl : ∀ i σ H, i ≤ xs.length → Pv i σ H → SqL K H a xs)
  (hs : ∀ i v σ H T H', xs[i]? = some v → Pv i σ H → Same H H' → H' T = some (.tup [.int i, v]) → g (.ref T) σ H' fun σ2 H2 => tb { D with nx := Pv (i + 1), ct := Pv (i + 1), bk := D.nx } σ2 H2) (hd : ∀ σ H, Pv xs.length σ H → D.nx σ H) :
  ∃ W : Nat → Nat → St → Hp → Prop, (∃ m, W 0 m σ H) ∧ ∀ i m σ H, W i m σ H →
   ((Ite K a).stop i H ∧ D.nx σ H) ∨ ((Ite K a).go i H ∧ ∃ N : St → Hp → Prop, (∀ σ' H', N σ' H' → ∃ m', m' < m ∧ W (i + 1) m' σ' H') ∧ ∀ x H', (Ite K a).yld i H x H' → g x σ H' fun σ2 H2 => tb { D with nx := N, ct := N, bk := D.nx } σ2 H2) := by
 refine ⟨fun i m σ H => m = xs.length - i ∧ i ≤ xs.length ∧ Pv i σ H, ⟨xs.length, by simp, Nat.zero_le _, h0⟩, ?_⟩
 rintro i m σ H ⟨rfl, hi, p⟩
 have q := hl i σ H hi p
 by_cases hlt : i < xs.length
 ·refine .inr ⟨⟨xs, xs[i], q, by simp [hlt]⟩, Pv (i + 1), fun σ' H' p' => ⟨xs.length - (i + 1), by omega, rfl, hlt, p'⟩, fun x H' y => ?_⟩
  obtain ⟨T, v, rfl, hT, e, y⟩ := y
  exact hs i v σ H T H' (y xs q) p (fun b o h => by rw [e, upd_ne (ne_of_none h hT)]; exact h) (by rw [e]; exact upd_same)
 ·have e : i = xs.length := by omega
  subst e
  exact .inl ⟨⟨xs, q, Nat.le_refl _⟩, hd σ H p⟩
theorem rd_iEnum {K : PySem.W.Frag} {ta : TA} {σ : St} {H : Hp} {R : It → Hp → Prop} (h : ta σ H fun vs H1 => ∃ a xs, vs = [.ref a] ∧ SqL K H1 a xs ∧ R (Ite K a) H1) : iEnum K ta σ H R := h
noncomputable def Itz (K : PySem.W.Frag) (a b : Addr) : It :=
 ⟨fun i H => ∃ xs x ys y, SqL K H a xs ∧ xs[i]? = some x ∧ SqL K H b ys ∧ ys[i]? = some y,
  fun i H x H' => ∃ T u v, x = .ref T ∧ H T = none ∧ H' = upd H T (.tup [u, v]) ∧ (∀ xs, SqL K H a xs → xs[i]? = some u) ∧ ∀ ys, SqL K H b ys → ys[i]? = some v,
  fun i H => ∃ xs ys, SqL K H a xs ∧ SqL K H b ys ∧ (xs.length ≤ i ∨ ys.length ≤ i)⟩
theorem cls_ne {h : Heap} {a b : Addr} {o u : Obj} (h1 : h.get? a = some o) (h2 : h.get? b = some u) (hc : o.cls ≠ u.cls) : a ≠ b := fun e => by
 subst e
 rw [h1] at h2
 cases h2
 exact hc rfl
theorem turn_zip {P : Program} {w : World} {K : PySem.W.Frag} {elts : List Expr} {k : Nat} {pos : Pos} (l1 l2 z TI TO i1 i2 : Addr)
  (D : ∀ l1 l2, l1 ≠ z → l1 ≠ TO → l1 ≠ i1 → l1 ≠ i2 → l2 ≠ z → l2 ≠ TO → l2 ≠ i1 → l2 ≠ i2 → ZipApart z TI TO i1 i2 l1 l2) :
  Turn P w K (.Tuple elts k pos) (Itz K l1 l2) [z, TI, TO, i1, i2] z (fun i h => IsZip h z TI TO .none ∧ IsPair h TI (.ref i1) (.ref i2) ∧ (∃ a b, IsPair h TO a b) ∧ h.IsListIter i1 l1 i ∧ h.IsListIter i2 l2 i) where
 mem := by simp
 obj := fun i h st b hb => by
  obtain ⟨hz, hTI, ⟨a, c, hTO⟩, h1, h2⟩ := st
  rcases (by simpa using hb : b = z ∨ b = TI ∨ b = TO ∨ b = i1 ∨ b = i2) with rfl | rfl | rfl | rfl | rfl
  ·exact ⟨_, hz, fun v z => by cases z⟩
  ·exact ⟨_, hTI, fun v z => by cases z⟩
  ·exact ⟨_, hTO, fun v z => by cases z⟩
  ·obtain ⟨o, e, c, d⟩ := h1
   exact ⟨o, e, fun v z => by rw [d] at z; cases z⟩
  ·obtain ⟨o, e, c, d⟩ := h2
   exact ⟨o, e, fun v z => by rw [d] at z; cases z⟩
 keep := fun i h h' st k => by
  obtain ⟨hz, hTI, ⟨a, c, hTO⟩, h1, h2⟩ := st
  exact ⟨k z (by simp) _ hz, k TI (by simp) _ hTI, ⟨a, c, k TO (by simp) _ hTO⟩, h1.at fun o q => k i1 (by simp) o q, h2.at fun o q => k i2 (by simp) o q⟩
 item := by
  intro X hP hw hK hc i pins s σ H E I hf st hg
  subst hP hw hK
  obtain ⟨xs, x, ys, y, hq, hx, hr, hy⟩ := hg
  obtain ⟨its, rv, p, _⟩ := I.list hq
  obtain ⟨jts, rw', p', _⟩ := I.list hr
  obtain ⟨u, hu, ru⟩ := rv.get hx
  obtain ⟨v, hv, rv'⟩ := rw'.get hy
  obtain ⟨hz, hTI, ⟨a, c, hTO⟩, h1, h2⟩ := st
  obtain ⟨o1, n1, e1, c1, _⟩ := id p
  obtain ⟨o2, n2, e2, c2, _⟩ := id p'
  obtain ⟨o3, e3, c3, _⟩ := id h1
  obtain ⟨o4, e4, c4, _⟩ := id h2
  have D' := D l1 l2 (cls_ne e1 hz (by rw [c1]; show Value.type "list" ≠ Value.type "zip"; decide)) (cls_ne e1 hTO (by rw [c1]; show Value.type "list" ≠ Value.type "tuple"; decide)) (cls_ne e1 e3 (by rw [c1, c3]; decide)) (cls_ne e1 e4 (by rw [c1, c4]; decide))
   (cls_ne e2 hz (by rw [c2]; show Value.type "list" ≠ Value.type "zip"; decide)) (cls_ne e2 hTO (by rw [c2]; show Value.type "list" ≠ Value.type "tuple"; decide)) (cls_ne e2 e3 (by rw [c2, c3]; decide)) (cls_ne e2 e4 (by rw [c2, c4]; decide))
  have lt : ∀ b ∈ [z, TI, TO, i1, i2], b < s.heap.objs.size := fun b hb => by
   rcases (by simpa using hb : b = z ∨ b = TI ∨ b = TO ∨ b = i1 ∨ b = i2) with rfl | rfl | rfl | rfl | rfl
   ·exact Heap.lt_size hz
   ·exact Heap.lt_size hTI
   ·exact Heap.lt_size hTO
   ·exact Heap.lt_size e3
   ·exact Heap.lt_size e4
  refine wpAny_pyNext_zip_item D' hz hTI hTO h1 h2 p.isList p'.isList (x := u) (y := v) (by simpa using hu) (by simpa using hv) fun h' a1 a2 a3 a4 a5 a6 hk => ?_
  obtain ⟨I1, f1⟩ := I.pair (t' := s.toks) (ch := [z, TI, TO, i1, i2]) (x := x) (y := y) hf lt ru rv' a5
   (fun b o hb q => hk b o (fun e => hb (by simp [e])) (fun e => hb (by simp [e])) (fun e => hb (by simp [e])) (fun e => hb (by simp [e])) q)
  refine ⟨_, rfl, wpAny_letOwnedTupleGo_zip a1 fun h3 hz3 sb => ?_⟩
  have I2 := I1.turnedL (h' := h3) (t' := s.toks) (ch := [z, TI, TO, i1, i2]) f1 fun b o hb q => (sb.2 b fun e => hb (by simp [e])).trans q
  exact ⟨.ref s.heap.objs.size, _, I2, rfl, ⟨_, x, y, rfl, I.hok.fresh (Nat.le_refl _), rfl, (fun ys hy => by rw [I.list_inj hy hq]; exact hx), fun ys hy' => by rw [I.list_inj hy' hr]; exact hy⟩,
   ⟨hz3, (sb.2 TI D'.TIz).trans (hk TI _ D'.TIz D'.TITO D'.TIi1 D'.TIi2 hTI), ⟨_, _, (sb.2 TO D'.TOz).trans a2⟩, a3.at fun o q => (sb.2 i1 D'.i1z).trans q, a4.at fun o q => (sb.2 i2 D'.i2z).trans q⟩, fun b hb => (f1 b hb).1⟩
 done := by
  intro X hP hw hK hc i pins s σ H E I hf st hg
  subst hP hw hK
  obtain ⟨xs, ys, hq, hr, hl⟩ := hg
  obtain ⟨its, rv, p, _⟩ := I.list hq
  obtain ⟨jts, rw', p', _⟩ := I.list hr
  obtain ⟨hz, hTI, ⟨a, c, hTO⟩, h1, h2⟩ := st
  obtain ⟨o1, n1, e1, c1, _⟩ := id p
  obtain ⟨o2, n2, e2, c2, _⟩ := id p'
  obtain ⟨o3, e3, c3, _⟩ := id h1
  obtain ⟨o4, e4, c4, _⟩ := id h2
  have D' := D l1 l2 (cls_ne e1 hz (by rw [c1]; show Value.type "list" ≠ Value.type "zip"; decide)) (cls_ne e1 hTO (by rw [c1]; show Value.type "list" ≠ Value.type "tuple"; decide)) (cls_ne e1 e3 (by rw [c1, c3]; decide)) (cls_ne e1 e4 (by rw [c1, c4]; decide))
   (cls_ne e2 hz (by rw [c2]; show Value.type "list" ≠ Value.type "zip"; decide)) (cls_ne e2 hTO (by rw [c2]; show Value.type "list" ≠ Value.type "tuple"; decide)) (cls_ne e2 e3 (by rw [c2, c3]; decide)) (cls_ne e2 e4 (by rw [c2, c4]; decide))
  have l1' := rv.length
  have l2' := rw'.length
  refine wpAny_pyNext_zip_end (I.ok.hd hc) D' hz hTI hTO h1 h2 p.isList p'.isList ?_ fun h' hk => ⟨rfl, I.turnedL (t' := s.toks) (ch := [z, TI, TO, i1, i2]) hf fun b o hb q => hk b o (fun e => hb (by simp [e])) (fun e => hb (by simp [e])) (fun e => hb (by simp [e])) (fun e => hb (by simp [e])) q⟩
  rcases hl with q | q
  ·exact .inl (by simp; omega)
  ·exact .inr (by simp; omega)
 self := fun _ _ _ _ _ st h => wpAny_pyIter_zip st.1 h
theorem ne_add {n i j : Nat} (h : i ≠ j) : n + i ≠ n + j := fun e => h (Nat.add_left_cancel e)
noncomputable def iZip (K : PySem.W.Frag) (ta : TA) : TI := fun σ H R => ta σ H fun vs H1 => ∃ a b xs ys, vs = [.ref a, .ref b] ∧ SqL K H1 a xs ∧ SqL K H1 b ys ∧ R (Itz K a b) H1
theorem pi_zip {X : Cx} {a b : Expr} {ta : TA} {elts : List Expr} {k : Nat} {p pos pos' : Pos} (hg : Gl X "zip") (hm : X.mg "zip" = none) (ha : PA X [a, b] ta) (hs : starEach [a, b] X.env = [(false, eval a X.env), (false, eval b X.env)] := by rfl) (hs2 : starEach [b] X.env = [(false, eval b X.env)] := by rfl) :
  PI X (.Tuple elts k pos') (.Call (.Name "zip" p) [a, b] [] pos) (iZip X.K ta) := by
 intro pins s σ H R I h
 refine Call_ (ld_blt I hg hm bt_zip (PyProof.Rows.callWith_type1 (thn (ha pos pins s σ H _ I h) fun us s1 ⟨vs, H1, I1, r1, q1⟩ => ?_) (by rw [hs, hs2]) (by rw [hs2]; rfl)))
 obtain ⟨l1, l2, xs, ys, rfl, hq, hr, q⟩ := q1
 cases r1 with
 | cons r rr =>
  cases rr with
  | cons r' rr =>
   cases rr
   cases r
   cases r'
   obtain ⟨its, rv, p, hz⟩ := I1.list hq
   obtain ⟨jts, rw', p', hz'⟩ := I1.list hr
   refine call_zip_2 p.isList p'.isList fun h' a1 a2 a3 a4 a5 a6 hk => ?_
   refine wpAny_pyIter_zip a1 ?_
   refine ⟨s1.heap.objs.size + 4, [s1.heap.objs.size + 4, s1.heap.objs.size + 2, s1.heap.objs.size + 3, s1.heap.objs.size, s1.heap.objs.size + 1], _, _, H1, rfl, I1.kept (t' := s1.toks) hk,
    turn_zip l1 l2 _ _ _ _ _ (fun l1 l2 b1 b2 b3 b4 b5 b6 b7 b8 => ⟨ne_add (by decide), ne_add (by decide), ne_add (i := 0) (by decide), ne_add (by decide), ne_add (by decide), ne_add (j := 0) (by decide), ne_add (by decide), ne_add (j := 0) (by decide), ne_add (by decide), ne_add (i := 0) (by decide), b1, b2, b3, b4, b5, b6, b7, b8⟩), ⟨a1, a2, ⟨_, _, a3⟩, a4, a5⟩, fun c hc => ?_, q⟩
   have hc' : s1.heap.objs.size ≤ c := by
    rcases (by simpa using hc : c = s1.heap.objs.size + 4 ∨ c = s1.heap.objs.size + 2 ∨ c = s1.heap.objs.size + 3 ∨ c = s1.heap.objs.size ∨ c = s1.heap.objs.size + 1) with rfl | rfl | rfl | rfl | rfl <;> omega
   exact I1.fpOk hc' (I1.hok.fresh hc')
theorem for_zip {K : PySem.W.Frag} {a b : Addr} {xs ys : List V} {g : TG} {tb : TS} {D : Ends} {σ : St} {H : Hp} (Pv : Nat → St → Hp → Prop) (hlen : xs.length = ys.length) (h0 : Pv 0 σ H) (hl : ∀ i σ H, i ≤ xs.length → Pv i σ H → SqL K H a xs ∧ SqL K H b ys)
  (hs : ∀ i u v σ H T H', xs[i]? = some u → ys[i]? = some v → Pv i σ H → Same H H' → H' T = some (.tup [u, v]) → g (.ref T) σ H' fun σ2 H2 => tb { D with nx := Pv (i + 1), ct := Pv (i + 1), bk := D.nx } σ2 H2) (hd : ∀ σ H, Pv xs.length σ H → D.nx σ H) :
  ∃ W : Nat → Nat → St → Hp → Prop, (∃ m, W 0 m σ H) ∧ ∀ i m σ H, W i m σ H →
   ((Itz K a b).stop i H ∧ D.nx σ H) ∨ ((Itz K a b).go i H ∧ ∃ N : St → Hp → Prop, (∀ σ' H', N σ' H' → ∃ m', m' < m ∧ W (i + 1) m' σ' H') ∧ ∀ x H', (Itz K a b).yld i H x H' → g x σ H' fun σ2 H2 => tb { D with nx := N, ct := N, bk := D.nx } σ2 H2) := by
 refine ⟨fun i m σ H => m = xs.length - i ∧ i ≤ xs.length ∧ Pv i σ H, ⟨xs.length, by simp, Nat.zero_le _, h0⟩, ?_⟩
 rintro i m σ H ⟨rfl, hi, p⟩
 obtain ⟨q, q'⟩ := hl i σ H hi p
 by_cases hlt : i < xs.length
 ·refine .inr ⟨⟨xs, xs[i], ys, ys[i], q, by simp [hlt], q', by simp⟩, Pv (i + 1), fun σ' H' p' => ⟨xs.length - (i + 1), by omega, rfl, hlt, p'⟩, fun x H' y => ?_⟩
  obtain ⟨T, u, v, rfl, hT, e, y, y'⟩ := y
  exact hs i u v σ H T H' (y xs q) (y' ys q') p (fun b o h => by rw [e, upd_ne (ne_of_none h hT)]; exact h) (by rw [e]; exact upd_same)
 ·have e : i = xs.length := by omega
  subst e
  exact .inl ⟨⟨xs, ys, q, q', .inl (Nat.le_refl _)⟩, hd σ H p⟩
theorem rd_iZip {K : PySem.W.Frag} {ta : TA} {σ : St} {H : Hp} {R : It → Hp → Prop} (h : ta σ H fun vs H1 => ∃ a b xs ys, vs = [.ref a, .ref b] ∧ SqL K H1 a xs ∧ SqL K H1 b ys ∧ R (Itz K a b) H1) : iZip K ta σ H R := h
end L2
namespace L2
open PySem PySem.Spec PyProof.Rows
theorem entry_dul : entryFor table "dict.update.loop" = some Builtin.«dict.update.loop» := entryFor_of_tree (by kernel_rfl)
theorem plain_dul : plainId "dict.update.loop" = true := by decide +kernel
theorem miss_keys : typeLookup (.type "list") "keys" = pure none := by rw [typeLookup_type, builtinLookup_eq_fast]; kernel_rfl
section
variable {prog : Program} {w : World} {A : Around} {E : Value → Shared → Prop} {s : Shared}
theorem noKeys {a : Addr} {o : Obj} {xs : Array Value} {k : Nat} {Q : Option Value → Shared → Prop} (hx : s.heap.get? a = some o) (hc : o.cls = .type "list") (hdat : o.data = .seq xs k) (hd : o.dict = none) (hA : A.handled = none)
  (h : ∀ h' tk, (∀ b o, s.heap.get? b = some o → h'.get? b = some o) → Q none { s with heap := h', toks := tk }) : wpAny (model prog w) A (getAttr? (.ref a) "keys") Q E s := by
 obtain ⟨c, dct, dat, sl⟩ := o
 simp only at hc hdat hd
 subst hc hdat hd
 obtain ⟨hp, g, d, tk, os⟩ := s
 have hT : ∀ tk', (⟨hp, g, d, tk', os⟩ : Shared).TypeIs (.ref a) "list" := fun _ => ⟨_, hx, rfl⟩
 have f1 := sub_AttributeError
 have f3 := F.slot_list_getattribute.lookup
 have f4 := F.slot_list_getattribute.bind (.ref a)
 have f5 := am_list_getattr_none
 unfold getAttr? getAttrBy? getAttrBy
 repeat (any_goals (first | assumption | exact hT _ | ((with_reducible show wpAny _ _ (call (Value.builtin "list.__getattribute__") _ _) _ _ _); refine call_meets F.slot_list_getattribute (hT _) am_entry_list_getattribute (F.args_list_getattribute_2 _ _) (meets_getattribute_miss_list a xs k sl "keys" _ miss_keys (by decide +kernel) (by decide +kernel)) ⟨hx, hA, fun h' tk' e hx' => ?_⟩) | wp_step))
 obtain ⟨t', u', he⟩ := hx'.there
 show wpAny _ _ (getattributeRaised _ _ _ _ _ _ _) _ _ _
 unfold getattributeRaised
 repeat (any_goals (first | assumption | wp_step))
 exact h _ _ hx'.keeps
variable {K : Type} [DecidableEq K] {knd : KeyKind prog w K}
noncomputable def foldS (acc : List (K × Value)) (ps : List (K × Value)) : List (K × Value) := ps.foldl (fun acc kv => stored acc kv.1 kv.2) acc
theorem stored_len (acc : List (K × Value)) (k : K) (v : Value) : (stored acc k v).length ≤ acc.length + 1 := by
 unfold stored
 split
 ·rw [List.length_map]; exact Nat.le_succ _
 ·rw [List.length_append]; exact Nat.le_refl _
theorem dul {R : Result → Shared → Prop} {d it l : Addr} {items : List Value} {res : Value} (hh : A.handled = none) (hdi : d ≠ it) (hdl : d ≠ l) (hil : it ≠ l) :
  ∀ (ps : List (K × Value)) (i : Nat) (acc : List (K × Value)) (s : Shared), s.heap.IsListIter it l i → s.heap.IsList l items.toArray → (items.length = i + ps.length) →
   (∀ j kv, ps[j]? = some kv → ∃ a key, items[i + j]? = some (.ref a) ∧ IsTup s.heap a #[key, kv.2] ∧ knd.is kv.1 key = true ∧ a ≠ d ∧ a ≠ it) → s.heap.DictOf knd d acc → acc.length + ps.length ≤ sizeLine →
   (∀ h' tk, (∀ b o, b ≠ d → b ≠ it → s.heap.get? b = some o → h'.get? b = some o) → h'.DictOf knd d (foldS acc ps) → R (.ok (.ret res)) { s with heap := h', toks := tk }) →
   codeAny (model prog w) A (.builtin "dict.update.loop" ⟨[.ref d, .ref it, rawInt i, res], []⟩) R s
 | [], i, acc, s, hit, hl, hn, hp, hd, hz, hR => by
  refine codeAny_builtin entry_dul ?_
  rw [Around.under_plainId plain_dul _]
  show wpAny _ A.in1 (pyNext (.ref it) >>= _) _ _ s
  refine wpAny_bind (wpAny_pyNext_list_end (A := A.in1) hh hit hl (by simp; simp at hn; omega) fun h' eb => ?_)
  show wpAny _ A.in1 (Builtin.Dict.addKeywords d [] >>= _) _ _ _
  refine wpAny_bind (wpAny_pure (wpAny_pure (hR h' s.toks (fun b o _ hb e => eb b o hb e) ?_)))
  exact hd.extBut eb hdi
 | kv :: ps, i, acc, s, hit, hl, hn, hp, hd, hz, hR => by
  obtain ⟨a, key, ha, ht, hk, had, hai⟩ := hp 0 kv rfl
  refine codeAny_builtin entry_dul ?_
  rw [Around.under_plainId plain_dul _]
  show wpAny _ A.in1 (pyNext (.ref it) >>= _) _ _ s
  refine wpAny_bind (wpAny_pyNext_list_item (A := A.in1) hit hl (x := .ref a) (by simpa using ha) fun h1 hit1 sb => ?_)
  obtain ⟨ot, eo, oc, n, od⟩ := ht
  have eo1 : h1.get? a = some ot := (sb.2 a hai).trans eo
  show wpAny _ A.in1 (holding [Value.ref a] _ >>= _) _ _ _
  refine wpAny_bind (wpAny_holding ?_)
  refine wpAny_bind (wpAny_tryCatch ?_)
  unfold Builtin.Dict.pairItems
  refine wpAny_bind (wpAny_typeOf (T := "tuple") ⟨_, eo1, oc⟩ ?_)
  show wpAny _ A.in1 (if ((Value.type "tuple" == Value.type "list") || (Value.type "tuple" == Value.type "tuple")) = true then _ else _) _ _ _
  rw [if_pos (by decide)]
  refine wpAny_bind (wpAny_seqItems eo1 od ?_)
  refine wpAny_pure ?_
  show wpAny _ A.in1 (holding [key, kv.2] (dictSet d key kv.2)) _ _ _
  have hd1 : h1.DictOf knd d acc := hd.extBut (fun b o hb e => (sb.2 b hb).trans e) hdi
  refine wpAny_holding (wpAny_dictSet_pairs (s := { s with heap := h1 }) hk hd1 (fun h2 hd2 sb2 => ?_) (by simp at hz; omega))
  show wpAny _ A.in1 (again _) _ _ _
  refine wpAny_pure ⟨plainId_quiet plain_dul _, ?_⟩
  have kp : ∀ b o, b ≠ d → b ≠ it → s.heap.get? b = some o → h2.get? b = some o := fun b o h1' h2' e => (sb2.2 b h1').trans ((sb.2 b h2').trans e)
  have sl := stored_len acc kv.1 kv.2
  refine dul hh hdi hdl hil ps (i + 1) (stored acc kv.1 kv.2) _ (hit1.at fun o e => (sb2.2 it hdi.symm).trans e) (hl.at fun o e => kp l o hdl.symm hil.symm e) (by simp at hn; omega) (fun j kv' hj => ?_) hd2 (by simp at hz; omega) fun h3 tk k3 hd3 => ?_
  ·obtain ⟨a', key', ha', ht', hk', had', hai'⟩ := hp (j + 1) kv' (by simpa using hj)
   obtain ⟨o', e', r'⟩ := ht'
   exact ⟨a', key', by rw [← ha']; congr 1; omega, ⟨o', kp _ _ had' hai' e', r'⟩, hk', had', hai'⟩
  ·exact hR h3 tk (fun b o h1' h2' e => k3 b o h1' h2' (kp b o h1' h2' e)) hd3
end
end L2
namespace L2
open PySem PySem.W PyProof.Rows
section
variable {n : Nat} {key : Nat → Int} {p : Array Nat}
noncomputable def Tw (n : Nat) (key : Nat → Int) {α : Type} : KasT α → (α → Prop) → Prop
 | .ret a, Q => Q a
 | .ask i j k, Q => i < n ∧ j < n ∧ Tw n key (k (decide (key i < key j))) Q
theorem Tw.bind {α β : Type} {f : α → KasT β} {Q : β → Prop} : ∀ {t : KasT α}, Tw n key t (fun a => Tw n key (f a) Q) → Tw n key (t.bind f) Q
 | .ret _, h => h
 | .ask _ _ _, h => ⟨h.1, h.2.1, Tw.bind h.2.2⟩
theorem Tw.mono {α : Type} {Q Q' : α → Prop} (hq : ∀ a, Q a → Q' a) : ∀ {t : KasT α}, Tw n key t Q → Tw n key t Q'
 | .ret _, h => hq _ h
 | .ask _ _ _, h => ⟨h.1, h.2.1, Tw.mono hq h.2.2⟩
theorem Tw.run {α : Type} {cmp : Nat → Nat → (Bool → Shared → Prop) → Shared → Prop} {Q : α → Shared → Prop} {s : Shared} (hc : ∀ i j C, i < n → j < n → C (decide (key i < key j)) s → cmp i j C s) :
  ∀ {t : KasT α}, Tw n key t (fun a => Q a s) → t.kasWp cmp Q s
 | .ret _, h => h
 | .ask i j k, h => hc i j _ h.1 h.2.1 (Tw.run hc h.2.2)
theorem Tw.asks {α : Type} {i j : Nat} {k : Bool → KasT α} {Q : α → Prop} (hi : i < n) (hj : j < n) (h1 : key i < key j → Tw n key (k true) Q) (h2 : ¬ key i < key j → Tw n key (k false) Q) : Tw n key (.ask i j k) Q := by
 refine ⟨hi, hj, ?_⟩
 by_cases c : key i < key j
 ·rw [decide_eq_true c]; exact h1 c
 ·rw [decide_eq_false c]; exact h2 c
noncomputable def Pk (n : Nat) (p : Array Nat) : Prop := p.toList.Perm (List.range n)
noncomputable def kv (key : Nat → Int) (p : Array Nat) (i : Nat) : Int := key (p.getD i 0)
noncomputable def Up (key : Nat → Int) (p : Array Nat) (k : Nat) : Prop := ∀ i j, i ≤ j → j < k → kv key p i ≤ kv key p j
noncomputable def Dn (key : Nat → Int) (p : Array Nat) (k : Nat) : Prop := ∀ i j, i ≤ j → j < k → kv key p j ≤ kv key p i
noncomputable def Eqs (key : Nat → Int) (p : Array Nat) (m q : Nat) : Prop := ∀ k, m - (q + 1) ≤ k → k < m → kv key p k = kv key p (m - 1)
theorem Pk.size (h : Pk n p) : p.size = n := by have := h.length_eq; simpa using this
theorem Pk.lt (h : Pk n p) (h0 : 0 < n) (i : Nat) : p.getD i 0 < n := by
 rw [Array.getD_eq_getD_getElem?]
 cases e : p[i]? with
 | none => exact h0
 | some x => exact List.mem_range.mp (h.mem_iff.mp (Array.mem_toList_iff.mpr (Array.mem_of_getElem? e)))
theorem Pk.of (h : Pk n p) {q : Array Nat} (hq : q.Perm p) : Pk n q := (Array.perm_iff_toList_perm.mp hq).trans h
theorem kv_eq {a b : Array Nat} {i j : Nat} (h : a[i]? = b[j]?) : kv key a i = kv key b j := by
 unfold kv
 rw [Array.getD_eq_getD_getElem?, Array.getD_eq_getD_getElem?, h]
theorem kv_rev {i j : Nat} (hj : j ≤ p.size) (k : Nat) : kv key (kas_rev p i j) k = if i ≤ k ∧ k < j then kv key p (i + j - 1 - k) else kv key p k := by
 have h := getElem?_mirror_all (xs := p) (i := i) hj k
 split
 ·rename_i c; rw [if_pos c] at h; exact kv_eq h
 ·rename_i c; rw [if_neg c] at h; exact kv_eq h
theorem kv_bub {src d : Nat} (hs : src < p.size) (hd : d ≤ src) (k : Nat) : kv key (bubble p src d) k = if k = src - d then kv key p src else if src - d < k ∧ k ≤ src then kv key p (k - 1) else kv key p k := by
 have h := getElem?_bubble (xs := p) hs d hd k
 split
 ·rename_i c; rw [if_pos c] at h; exact kv_eq h
 ·rename_i c
  rw [if_neg c] at h
  split
  ·rename_i c'; rw [if_pos c'] at h; exact kv_eq h
  ·rename_i c'; rw [if_neg c'] at h; exact kv_eq h
theorem Up.snoc {m : Nat} (h : Up key p m) (h1 : 1 ≤ m) (hc : ¬ kv key p m < kv key p (m - 1)) : Up key p (m + 1) := fun i j hij hj => by
 by_cases e : j < m
 ·exact h i j hij e
 ·have ej : j = m := by omega
  subst ej
  by_cases ei : i = j
  ·rw [ei]; exact Int.le_refl _
  ·have := h i (j - 1) (by omega) (by omega)
   omega
theorem Dn.snoc {m : Nat} (h : Dn key p m) (h1 : 1 ≤ m) (hc : kv key p m ≤ kv key p (m - 1)) : Dn key p (m + 1) := fun i j hij hj => by
 by_cases e : j < m
 ·exact h i j hij e
 ·have ej : j = m := by omega
  subst ej
  by_cases ei : i = j
  ·rw [ei]; exact Int.le_refl _
  ·have := h i (j - 1) (by omega) (by omega)
   omega
theorem t_asc (hp : Pk n p) : ∀ f m, 1 ≤ m → m + f ≤ n → Up key p m → Tw n key (kas_asc p f m) fun r => m ≤ r ∧ r ≤ m + f ∧ Up key p r ∧ (r < m + f → kv key p r < kv key p (r - 1))
 | 0, m, h1, hn, hu => ⟨Nat.le_refl _, Nat.le_refl _, hu, fun h => absurd h (Nat.lt_irrefl _)⟩
 | f + 1, m, h1, hn, hu => by
  refine Tw.asks (hp.lt (by omega) _) (hp.lt (by omega) _) (fun c => ?_) (fun c => ?_) <;> simp only [Bool.false_eq_true, if_true, if_false]
  ·exact ⟨Nat.le_refl _, by omega, hu, fun _ => c⟩
  ·exact Tw.mono (fun r h => ⟨by omega, by omega, h.2.2.1, fun hr => h.2.2.2 (by omega)⟩) (t_asc hp f (m + 1) (by omega) (by omega) (hu.snoc h1 c))
theorem kv_revE {m q : Nat} (hm : m ≤ p.size) (he : Eqs key p m q) (k : Nat) : kv key (kas_rev p (m - (q + 1)) m) k = kv key p k := by
 rw [kv_rev hm]
 split
 ·rename_i c
  rw [he k c.1 c.2, he _ (by omega) (by omega)]
 ·rfl
theorem t_desc : ∀ f (p : Array Nat) m q, Pk n p → 1 ≤ m → m + f ≤ n → q + 1 ≤ m → Dn key p m → Eqs key p m q →
  Tw n key (kas_desc f p m q) fun r => Pk n r.1 ∧ m ≤ r.2.1 ∧ r.2.1 ≤ m + f ∧ Dn key r.1 r.2.1 ∧ r.2.2 + 1 ≤ r.2.1 ∧ Eqs key r.1 r.2.1 r.2.2
 | 0, p, m, q, hp, h1, hn, hq, hd, he => ⟨hp, Nat.le_refl _, Nat.le_refl _, hd, hq, he⟩
 | f + 1, p, m, q, hp, h1, hn, hq, hd, he => by
  have sz := hp.size
  refine Tw.asks (hp.lt (by omega) _) (hp.lt (by omega) _) (fun c => ?_) (fun c => ?_) <;> simp only [Bool.false_eq_true, if_true, if_false]
  ·have c : kv key p m < kv key p (m - 1) := c
   split
   ·have hk := kv_revE (key := key) (p := p) (m := m) (q := q) (by omega) he
    have hp' : Pk n (kas_rev p (m - (q + 1)) m) := hp.of (mirror_perm _ _ _ _)
    refine Tw.mono (fun r h => ⟨h.1, by omega, by omega, h.2.2.2⟩) (t_desc f _ (m + 1) 0 hp' (by omega) (by omega) (by omega) (fun i j hij hj => ?_) fun k k1 k2 => ?_)
    ·rw [hk, hk]; exact hd.snoc h1 (by omega) i j hij hj
    ·rw [show k = m + 1 - 1 by omega]
   ·refine Tw.mono (fun r h => ⟨h.1, by omega, by omega, h.2.2.2⟩) (t_desc f p (m + 1) 0 hp (by omega) (by omega) (by omega) (hd.snoc h1 (by omega)) fun k k1 k2 => ?_)
    rw [show k = m + 1 - 1 by omega]
  ·have c : ¬ kv key p m < kv key p (m - 1) := c
   refine Tw.asks (hp.lt (by omega) _) (hp.lt (by omega) _) (fun c2 => ?_) (fun c2 => ?_) <;> simp only [Bool.false_eq_true, if_true, if_false]
   ·exact ⟨hp, Nat.le_refl _, Nat.le_add_right m (f + 1), hd, hq, he⟩
   ·have c2 : ¬ kv key p (m - 1) < kv key p m := c2
    refine Tw.mono (fun r h => ⟨h.1, by omega, by omega, h.2.2.2⟩) (t_desc f p (m + 1) (q + 1) hp (by omega) (by omega) (by omega) (hd.snoc h1 (by omega)) fun k k1 k2 => ?_)
    rw [Nat.add_sub_cancel]
    by_cases e : k = m
    ·rw [e]
    ·rw [he k (by omega) (by omega)]; omega
theorem t_tail {m : Nat} (hp : Pk n p) (h1 : 1 ≤ m) (hn : m ≤ n) (hd : Dn key p m) : Tw n key (kas_tail3 m n p) fun r => Pk n r.2 ∧ 1 ≤ r.1 ∧ r.1 ≤ n ∧ Up key r.2 r.1 := by
 have sz := hp.size
 have hp' : Pk n (kas_rev p 0 m) := hp.of (mirror_perm _ _ _ _)
 have hk := kv_rev (key := key) (p := p) (i := 0) (j := m) (by omega)
 refine Tw.bind (Tw.mono (fun r h => ?_) (t_asc hp' (n - m) m h1 (by omega) fun i j hij hj => ?_))
 ·exact ⟨hp', by omega, by omega, h.2.2.1⟩
 ·rw [hk, hk, if_pos ⟨Nat.zero_le _, by omega⟩, if_pos ⟨Nat.zero_le _, hj⟩]
  exact hd _ _ (by omega) (by omega)
theorem t_part {m : Nat} (hp : Pk n p) (hn : m + 1 ≤ n) (hd : Dn key p (m + 1)) : Tw n key (kas_descPart m n p) fun r => Pk n r.2 ∧ 1 ≤ r.1 ∧ r.1 ≤ n ∧ Up key r.2 r.1 := by
 refine Tw.bind (Tw.mono (fun r h => ?_) (t_desc (n - (m + 1)) p (m + 1) 0 hp (by omega) (by omega) (by omega) hd fun k k1 k2 => by rw [show k = m + 1 - 1 by omega]))
 obtain ⟨a, b, c, d, e, g⟩ := h
 have sz := a.size
 split
 ·have hk := kv_revE (key := key) (p := r.1) (m := r.2.1) (q := r.2.2) (by omega) g
  exact t_tail (a.of (mirror_perm _ _ _ _)) (by omega) (by omega) fun i j hij hj => by rw [hk, hk]; exact d i j hij hj
 ·exact t_tail a (by omega) (by omega) d
theorem t_count (hp : Pk n p) (h1 : 1 ≤ n) : Tw n key (kas_count n p) fun r => Pk n r.2 ∧ 1 ≤ r.1 ∧ r.1 ≤ n ∧ Up key r.2 r.1 := by
 have sz := hp.size
 refine Tw.bind (Tw.mono (fun r h => ?_) (t_asc (key := key) hp (n - 1) 1 (by omega) (by omega) fun i j hij hj => by rw [show i = j by omega]; exact Int.le_refl _))
 obtain ⟨a, b, c, d⟩ := h
 split
 ·exact ⟨hp, a, by omega, c⟩
 rename_i hne
 have hrn : r < n := by
  have : r ≠ n := fun e => hne (by rw [e]; simp)
  omega
 have d := d (by omega)
 split
 ·refine Tw.asks (hp.lt (by omega) _) (hp.lt (by omega) _) (fun q => ?_) (fun q => ?_) <;> simp only [Bool.false_eq_true, if_true, if_false]
  ·exact ⟨hp, a, by omega, c⟩
  ·have q : ¬ kv key p 0 < kv key p (r - 1) := q
   have hk := kv_rev (key := key) (p := p) (i := 0) (j := r) (by omega)
   have eqs : ∀ i, i < r → kv key p i = kv key p (r - 1) := fun i hi => by
    have h1 := c 0 i (Nat.zero_le _) hi
    have h2 := c i (r - 1) (by omega) (by omega)
    omega
   have eqk : ∀ i, kv key (kas_rev p 0 r) i = kv key p i := fun i => by
    rw [hk]
    split
    ·rename_i q'; rw [eqs _ q'.2, eqs _ (by omega)]
    ·rfl
   refine t_part (hp.of (mirror_perm _ _ _ _)) (by omega) fun i j hij hj => ?_
   rw [eqk, eqk]
   by_cases e : j = r
   ·by_cases e2 : i = r
    ·rw [e, e2]; exact Int.le_refl _
    ·rw [e, eqs i (by omega)]; omega
   ·rw [eqs i (by omega), eqs j (by omega)]; exact Int.le_refl _
 ·have er : r = 1 := by omega
  subst er
  refine t_part hp (by omega) fun i j hij hj => ?_
  rcases (by omega : (i = 0 ∧ j = 0) ∨ (i = 0 ∧ j = 1) ∨ (i = 1 ∧ j = 1)) with ⟨rfl, rfl⟩ | ⟨rfl, rfl⟩ | ⟨rfl, rfl⟩
  ·exact Int.le_refl _
  ·have : kv key p 1 < kv key p (1 - 1) := d
   exact Int.le_of_lt this
  ·exact Int.le_refl _
theorem t_place {k : Nat} (hp : Pk n p) (hkn : k < n) (hu : Up key p k) : ∀ f l r, l ≤ r → r ≤ k → r - l ≤ f → (∀ i, i < l → kv key p i ≤ kv key p k) → (∀ i, r ≤ i → i < k → kv key p k < kv key p i) →
  Tw n key (kas_place p k f l r) fun m => m ≤ k ∧ (∀ i, i < m → kv key p i ≤ kv key p k) ∧ ∀ i, m ≤ i → i < k → kv key p k < kv key p i
 | 0, l, r, h1, h2, h3, a, b => ⟨by omega, a, fun i hi => b i (by omega)⟩
 | f + 1, l, r, h1, h2, h3, a, b => by
  unfold kas_place
  split
  ·exact ⟨by omega, a, fun i hi => b i (by omega)⟩
  refine Tw.asks (hp.lt (by omega) _) (hp.lt (by omega) _) (fun q => ?_) (fun q => ?_) <;> simp only [Bool.false_eq_true, if_true, if_false]
  ·have q : kv key p k < kv key p ((l + r) / 2) := q
   exact t_place hp hkn hu f l _ (by omega) (by omega) (by omega) a fun i hi hk => by
    have := hu ((l + r) / 2) i hi hk
    omega
  ·have q : ¬ kv key p k < kv key p ((l + r) / 2) := q
   exact t_place hp hkn hu f _ r (by omega) h2 (by omega) (fun i hi => by
    have := hu i ((l + r) / 2) (by omega) (by omega)
    omega) b
theorem t_bin : ∀ f (p : Array Nat) k, Pk n p → k + f ≤ n → Up key p k → Tw n key (kas_bin f p k) fun q => Pk n q ∧ Up key q (k + f)
 | 0, p, k, hp, hn, hu => ⟨hp, hu⟩
 | f + 1, p, k, hp, hn, hu => by
  have sz := hp.size
  refine Tw.bind (Tw.mono (fun l h => ?_) (t_place hp (by omega) hu k 0 k (Nat.zero_le _) (Nat.le_refl _) (by omega) (fun i hi => absurd hi (Nat.not_lt_zero _)) fun i h1 h2 => absurd h1 (by omega)))
  obtain ⟨a, b, c⟩ := h
  have hk := kv_bub (key := key) (p := p) (src := k) (d := k - l) (by omega) (by omega)
  refine Tw.mono (fun q h => ⟨h.1, by rw [show k + (f + 1) = k + 1 + f by omega]; exact h.2⟩) (t_bin f _ (k + 1) (hp.of (bubble_perm _ _ _)) (by omega) fun i j hij hj => ?_)
  rw [hk, hk, show k - (k - l) = l by omega]
  repeat' split
  all_goals first
   | exact Int.le_refl _
   | (exfalso; omega)
   | exact Int.le_of_lt (c _ (by omega) (by omega))
   | exact b _ (by omega)
   | exact hu _ _ (by omega) (by omega)
   | (have h1 := b i (by omega); have h2 := c (j - 1) (by omega) (by omega); omega)
theorem t_sort (h2 : 1 ≤ n) : Tw n key (kas_sort n) fun q => Pk n q ∧ Up key q n := by
 have hp : Pk n (List.toArray (List.range n)) := List.Perm.refl _
 refine Tw.bind (Tw.mono (fun r h => ?_) (t_count (key := key) hp h2))
 obtain ⟨a, b, c, d⟩ := h
 split
 ·refine Tw.mono (fun q h => ⟨h.1, ?_⟩) (t_bin (n - max r.1 1) r.2 (max r.1 1) a (by omega) (by rw [show max r.1 1 = r.1 by omega]; exact d))
  have e : max r.1 1 + (n - max r.1 1) = n := by omega
  rw [e] at h
  exact h.2
 ·have e : r.1 = n := by omega
  exact ⟨a, by rw [← e]; exact d⟩
end
end L2
namespace L2
open PySem PySem.W PyProof.Rows
section
variable {prog : Program} {w : World} {A : Around} {E : Value → Shared → Prop} {s : Shared}
noncomputable def PrAt (h : Heap) (as : List Addr) (key val : Nat → Int) : Prop := ∀ i a, as[i]? = some a → ∃ t u, h.get? a = some { cls := .type "tuple", data := .seq #[.int (key i) t, .int (val i) u] }
theorem PrAt.keep {h h' : Heap} {as : List Addr} {key val : Nat → Int} (x : PrAt h as key val) (k : ∀ a ∈ as, ∀ o, h.get? a = some o → h'.get? a = some o) : PrAt h' as key val := fun i a e => by
 obtain ⟨t, u, q⟩ := x i a e
 exact ⟨t, u, k a (List.mem_of_getElem? e) _ q⟩
theorem pr_lt {as : List Addr} {key val : Nat → Int} (x : PrAt s.heap as key val) (inj : ∀ i j, i < as.length → j < as.length → key i = key j → i = j) {i j : Nat} {C : Bool → Shared → Prop} (hi : i < as.length) (hj : j < as.length)
  (h : C (decide (key i < key j)) s) : kas_ask prog w A (tuples' true) (as.map Value.ref) i j C s := by
 unfold kas_ask
 obtain ⟨t, u, q1⟩ := x i _ (List.getElem?_eq_getElem hi)
 obtain ⟨t', u', q2⟩ := x j _ (List.getElem?_eq_getElem hj)
 have e1 : (as.map Value.ref).getD i Value.none = .ref as[i] := by rw [List.getD_eq_getElem?_getD, List.getElem?_map, List.getElem?_eq_getElem hi]; rfl
 have e2 : (as.map Value.ref).getD j Value.none = .ref as[j] := by rw [List.getD_eq_getElem?_getD, List.getElem?_map, List.getElem?_eq_getElem hj]; rfl
 rw [e1, e2]
 refine kat_lt q1 rfl q2 rfl ?_
 show KatLex prog w A true _ C [(.int (key i) t, .int (key j) t'), (.int (val i) u, .int (val j) u')] 0 s
 refine kat_cons (wpAny_eqBool_int ?_)
 by_cases c : key i = key j
 ·have ij := inj i j hi hj c
  subst ij
  rw [beq_self_eq_true]
  refine kat_yes (kat_cons (wpAny_eqBool_int ?_))
  rw [beq_self_eq_true]
  refine kat_yes (kat_nil ?_)
  rw [decide_eq_false (Int.lt_irrefl _)] at h
  exact h
 ·rw [beq_false_of_ne c]
  exact kat_no (oneLt_int h)
theorem pr_tups {h : Heap} {key val : Nat → Int} : ∀ {as : List Addr} (_ : PrAt h as key val), ∃ fs, KatTups h (as.map Value.ref) fs ∧ fs.length = as.length ∧ ∀ v ∈ fs, ∃ n t, v = Value.int n t
 | [], _ => ⟨[], KatTups.nil, rfl, fun v hv => nomatch hv⟩
 | a :: r, x => by
  obtain ⟨t, u, q⟩ := x 0 a rfl
  obtain ⟨fs, k, l, f⟩ := pr_tups (key := fun i => key (i + 1)) (val := fun i => val (i + 1)) (as := r) fun i b e => x (i + 1) b (by simpa using e)
  refine ⟨.int (key 0) t :: fs, KatTups.cons q rfl rfl rfl k, by rw [List.length_cons, l, List.length_cons], fun v hv => ?_⟩
  rcases List.mem_cons.mp hv with rfl | hv
  ·exact ⟨_, _, rfl⟩
  ·exact f v hv
theorem zip_snd (vs : List Value) : (vs.toArray.zip vs.toArray).map (·.2) = vs.toArray := by
 apply Array.toList_inj.mp
 rw [Array.toList_map, Array.toList_zip]
 exact List.map_snd_zip (Nat.le_refl _)
theorem range_get (vs : List Value) : (List.range vs.length).map (fun i => vs.getD i Value.none) = vs := by
 refine List.ext_getElem (by simp) fun i h1 h2 => ?_
 rw [List.getElem_map, List.getElem_range, List.getD_eq_getElem?_getD, List.getElem?_eq_getElem h2]
 rfl
theorem pw_short : ∀ {l : List Int}, l.length < 2 → l.Pairwise (· ≤ ·)
 | [], _ => .nil
 | [_], _ => List.pairwise_singleton _ _
 | _ :: _ :: _, h => absurd h (by rw [List.length_cons, List.length_cons]; omega)
theorem sort_prs {a : Addr} {as : List Addr} {key val : Nat → Int} {c0 : Nat} {P : PySem.Fin → Shared → Prop} (hob : s.heap.get? a = some (seqObj "list" (as.map Value.ref).toArray c0)) (hna : a ∉ as) (x : PrAt s.heap as key val)
  (inj : ∀ i j, i < as.length → j < as.length → key i = key j → i = j) (h64 : as.length < 64)
  (hend : ∀ (q : List Nat) (h' : Heap) (c : Nat), q.Perm (List.range as.length) → (q.map key).Pairwise (· ≤ ·) → (∀ b o, b ≠ a → s.heap.get? b = some o → h'.get? b = some o) →
   h'.get? a = some (seqObj "list" ((q.map fun i => as.getD i 0).map Value.ref).toArray c) → P (.done (.ret .none)) { s with heap := h' }) :
  wpAny (model prog w) A (Builtin.«list.sort» ⟨[.ref a], []⟩) P E s := by
 have hlt : a < s.heap.objs.size := Heap.lt_size hob
 obtain ⟨c1, hob1⟩ : ∃ c1, (s.heap.update a (Obj.mapSeq fun _ => (#[] : Array Value))).get? a = some (seqObj "list" #[] c1) := ⟨_, get?_update_seq hob fun _ => #[]⟩
 have sb1 := Heap.SameBut.update s.heap a (Obj.mapSeq fun _ => (#[] : Array Value))
 rw [list_sort_plain]
 refine wpAny_bind (listItems_at (s := s) hob rfl ?_)
 refine wpAny_bind (listUpdate_at (s := s) hob rfl ?_ (by rw [List.size_toArray, List.length_map, sizeLine_eq]; omega) (Nat.zero_le _))
 refine wpAny_bind (seqEpoch_at (n := c1) hob1 rfl ?_)
 refine wpAny_bind (wpAny_newTuple ?_ (by show (as.map Value.ref).length ≤ _; rw [List.length_map, sizeLine_eq]; omega))
 refine wpAny_bind (wpAny_newList ?_ (Nat.zero_le (sizeLine)))
 refine wpAny_holding ?_
 generalize hH : ((s.heap.update a (Obj.mapSeq fun _ => (#[] : Array Value))).push (seqObj "tuple" (as.map Value.ref).toArray 0)).push (seqObj "list" #[] 0) = hX
 have kX : ∀ b o, b ≠ a → s.heap.get? b = some o → hX.get? b = some o := fun b o hb e => by
  rw [← hH]
  exact Heap.get?_push_of_some _ (Heap.get?_push_of_some _ ((sb1.2 b hb).trans e))
 have oX : hX.get? a = some (seqObj "list" #[] c1) := by
  rw [← hH]
  exact Heap.get?_push_of_some _ (Heap.get?_push_of_some _ hob1)
 have xX : PrAt hX as key val := x.keep fun b hb o e => kX b o (fun z => hna (z ▸ hb)) e
 show wpAny (model prog w) A _ P E { s with heap := hX }
 dsimp only
 have szv : (as.map Value.ref).toArray.size = as.length := by rw [List.size_toArray, List.length_map]
 have outE : ∀ q : List Nat, q.Perm (List.range as.length) → (List.map (fun i => (as.map Value.ref).getD i Value.none) q) = (q.map fun i => as.getD i 0).map Value.ref := fun q hq => by
  rw [List.map_map]
  refine List.map_congr_left fun i hi => ?_
  have hl : i < as.length := List.mem_range.mp (hq.mem_iff.mp hi)
  show (as.map Value.ref).getD i Value.none = Value.ref (as.getD i 0)
  rw [List.getD_eq_getElem?_getD, List.getD_eq_getElem?_getD, List.getElem?_map, List.getElem?_eq_getElem hl]
  rfl
 have done : ∀ (q : List Nat), q.Perm (List.range as.length) → (q.map key).Pairwise (· ≤ ·) → ∀ out : Array Value, out = (List.map (fun i => (as.map Value.ref).getD i Value.none) q).toArray →
   P (.done (.ret .none)) { s with heap := hX.update a (Obj.mapSeq fun _ => out) } := fun q hq hs out ho => by
  subst ho
  have o2 := get?_update_seq oX fun _ => (List.map (fun i => (as.map Value.ref).getD i Value.none) q).toArray
  have sb2 := Heap.SameBut.update hX a (Obj.mapSeq fun _ => (List.map (fun i => (as.map Value.ref).getD i Value.none) q).toArray)
  rw [outE q hq] at o2 sb2 ⊢
  exact hend q _ _ hq hs (fun b o hb e => (sb2.2 b hb).trans (kX b o hb e)) o2
 by_cases h2 : (as.map Value.ref).toArray.size < 2
 ·rw [if_pos h2, if_pos h2]
  refine wpAny_bind (wpAny_pure ?_)
  rw [StateT.run_pure]
  refine wpAny_bind (wpAny_pure ?_)
  dsimp only
  refine wpAny_bind (seqEpoch_at (n := c1) oX rfl ?_)
  have eo : (arrOf (SortSt.mk' general' ((as.map Value.ref).toArray.zip (as.map Value.ref).toArray) #[] 7 none)).map (·.2) = (List.map (fun i => (as.map Value.ref).getD i Value.none) (List.range as.length)).toArray := by
   have e := range_get (as.map Value.ref)
   rw [List.length_map] at e
   rw [e]
   exact zip_snd _
  rw [eo]
  refine wpAny_bind (listUpdate_at (s := { s with heap := hX }) oX rfl ?_ (Nat.zero_le _) (by rw [List.size_toArray, List.length_map, List.length_range, sizeLine_eq]; omega))
  simp only [bne_self_eq_false, Bool.false_eq_true, if_false]
  refine wpAny_pure (done (List.range as.length) (List.Perm.refl _) ?_ _ rfl)
  rw [szv] at h2
  exact pw_short (by rw [List.length_map, List.length_range]; exact h2)
 ·rw [if_neg h2, if_neg h2]
  rw [szv] at h2
  obtain ⟨fs, kt, kl, ki⟩ := pr_tups xX
  have hX' : hX = ({ s with heap := hX } : Shared).heap := rfl
  refine wpAny_bind (kat_kind (s := { s with heap := hX }) (T := Value.type "int") kt (by omega) (fun v hv => ?_) (by decide) ?_)
  ·obtain ⟨m, t, rfl⟩ := ki v hv
   exact Looks.of_pure rfl
  refine wpAny_bind (wpAny_mono (kat_run (s := { s with heap := hX }) (ks := as.map Value.ref) (vs := as.map Value.ref) (κ := tuples' true) (Q := fun st' s' => ∃ p : Array Nat, Pk as.length p ∧ Up key p as.length ∧ arrOf st' = p.map (kas_item ((as.map Value.ref).toArray.zip (as.map Value.ref).toArray)) ∧ failedOf st' = none ∧ s' = { s with heap := hX }) (G := fun p s' => Pk as.length p ∧ Up key p as.length ∧ s' = { s with heap := hX })
   rfl (by rw [List.length_map]; omega) (by rw [List.length_map]; exact h64) (fun p st' s' _ a2 a3 a4 => ⟨p, a4.1, a4.2.1, a2, a3, a4.2.2⟩) ?_) ?_ fun _ _ e => e)
  ·rw [List.length_map]
   exact Tw.run (n := as.length) (key := key) (fun i j C hi hj hC => pr_lt xX inj hi hj hC) (Tw.mono (fun q h => ⟨h.1, h.2, rfl⟩) (t_sort (key := key) (by omega)))
  rintro ⟨⟨⟩, st'⟩ s' ⟨p, hp, hu, har, hf, rfl⟩
  dsimp only
  rw [kat_snds rfl har]
  refine wpAny_bind (seqEpoch_at (n := c1) oX rfl ?_)
  have psz := hp.size
  refine wpAny_bind (listUpdate_at (s := { s with heap := hX }) oX rfl ?_ (Nat.zero_le _) (by rw [List.size_toArray, List.length_map, Array.length_toList, psz, sizeLine_eq]; omega))
  rw [hf]
  simp only [bne_self_eq_false, Bool.false_eq_true, if_false]
  refine wpAny_pure (done p.toList hp ?_ _ rfl)
  refine List.pairwise_map.mpr (List.pairwise_iff_getElem.mpr fun i j hi hj hij => ?_)
  rw [Array.length_toList] at hi hj
  have := hu i j (by omega) (by omega)
  unfold kv at this
  rw [Array.getD_eq_getD_getElem?, Array.getD_eq_getD_getElem?, Array.getElem?_eq_getElem hi, Array.getElem?_eq_getElem hj] at this
  exact this
end
end L2
namespace L2
open PySem PySem.Spec PySem.W PyProof.Rows
section
variable {X : Cx} {pins : List (Addr × Obj)} {σ : St} {H : Hp} {s : Shared}
noncomputable def NewA (X : Cx) (pins : List (Addr × Obj)) (T : Addr) : Prop := X.s₀.heap.objs.size ≤ T ∧ T ≠ X.env.locals ∧ (∀ x c, X.env.cells.lookup x = some c → c ≠ T) ∧ ∀ p ∈ X.pn ++ pins, p.1 ≠ T
theorem Inv.newA (I : Inv X pins σ H s) {T : Addr} (hT : s.heap.objs.size ≤ T) : NewA X pins T := by
 obtain ⟨_, f1, _, _, f4, f5⟩ := I.fpOk (H' := fun _ => none) hT rfl
 exact ⟨Nat.le_trans I.sz hT, f1, f4, f5⟩
theorem ObjOk.obj {P : Program} {w : World} {h : Heap} {a : Addr} {o : HO} (x : ObjOk P w H h a o) : ∃ u, h.get? a = some u := by
 cases o with
 | lst xs => obtain ⟨_, _, _, _, e⟩ := x; exact ⟨_, e⟩
 | tup xs => obtain ⟨_, _, _, u, e, _⟩ := x; exact ⟨u, e⟩
 | dK kvs => obtain ⟨_, _, _, _, u, _, _, e, _⟩ := x; exact ⟨u, e⟩
 | dT kvs => obtain ⟨_, _, _, _, u, _, _, e, _⟩ := x; exact ⟨u, e⟩
 | set S n => obtain ⟨u, _, _, _, e, _⟩ := x; exact ⟨u, e⟩
 | ins C dx fs => obtain ⟨_, _, _, e, _⟩ := x; exact ⟨_, e⟩
 | own y => exact x
 | xd fs => obtain ⟨_, ⟨u, _, _, e, _⟩, _⟩ := x; exact ⟨u, e⟩
 | rng lo hi => obtain ⟨_, _, _, e⟩ := x; exact ⟨_, e⟩
 | frz u v => exact ⟨_, x.1⟩
 | tbl ps => exact ⟨_, x⟩
 | met f y => exact ⟨_, x⟩
 | ext φ => exact x.2.1
theorem Inv.none_at {h1 : Heap} (I : Inv X pins σ H s) (hk : ∀ b o, s.heap.get? b = some o → h1.get? b = some o) : H h1.objs.size = none := by
 cases e : H h1.objs.size with
 | none => rfl
 | some u =>
  obtain ⟨v, q⟩ := (I.hok _ _ e).obj
  exact absurd (Heap.lt_size (hk _ _ q)) (Nat.lt_irrefl _)
theorem Inv.newB {h1 : Heap} (I : Inv X pins σ H s) (hk : ∀ b o, s.heap.get? b = some o → h1.get? b = some o) : NewA X pins h1.objs.size := by
 have lt : ∀ b o, s.heap.get? b = some o → b < h1.objs.size := fun b o e => Heap.lt_size (hk b o e)
 obtain ⟨m, ⟨o, _, _, ho, _⟩, _⟩ := I.loc
 have hL := lt _ _ ho
 refine ⟨Nat.le_of_lt (Nat.lt_of_le_of_lt I.ok.above hL), Nat.ne_of_gt hL, fun x c e => ?_, fun p hp => Nat.ne_of_lt (lt _ _ (I.pin p hp).1)⟩
 obtain ⟨v, o, ho, _⟩ := I.cell x c e
 exact Nat.ne_of_lt (lt _ _ ho)
theorem Inv.track {T : Addr} {o : HO} (I : Inv X pins σ H s) (h0 : H T = none) (hn : NewA X pins T) (new : ObjOk X.prog X.w (upd H T o) s.heap T o) : Inv X pins σ (upd H T o) s := by
 have ne : ∀ b u, H b = some u → b ≠ T := fun b u e z => by rw [z, h0] at e; cases e
 refine I.step (h' := s.heap) (H' := upd H T o) (g' := s.gens) (d' := s.drawn) (t' := s.toks) (ch := [T]) (fun b hb => ?_) (fun b o _ _ _ e _ => e) (fun b o _ _ _ e _ => ⟨o.slots, e⟩) (fun b u hb _ n => ?_) (fun b u _ e => ⟨u, e⟩)
  (fun b xs e => (upd_ne (ne _ _ e)).trans e) (fun b u v e => (upd_ne (ne _ _ e)).trans e) (fun b ps e => ⟨#[], by rw [upd_ne (ne _ _ e), e]; simp⟩) (fun m hm => hm) (fun b u e => ?_) I.bare
 ·have e : b = T := by simpa using hb
  subst e
  exact ⟨.inr hn.1, hn.2.1, hn.2.2.1, hn.2.2.2⟩
 ·exact (upd_ne fun z => hb (by simp [z])).trans n
 ·by_cases z : b = T
  ·subst z
   rw [upd_same] at e
   cases e
   exact new
  ·rw [upd_ne z] at e
   exact (I.hok b u e).stay (fun c v _ q => q) (fun c q => (upd_ne (ne _ _ q)).trans q) fun c ys q => (upd_ne (ne _ _ q)).trans q
theorem Inv.trackAll : ∀ (ws : List (Addr × HO)) {H : Hp}, Inv X pins σ H s → (∀ p ∈ ws, H p.1 = none ∧ NewA X pins p.1 ∧ ∀ H', ObjOk X.prog X.w H' s.heap p.1 p.2) → (ws.map (·.1)).Nodup → ∃ H', Inv X pins σ H' s ∧ Same H H' ∧ ∀ p ∈ ws, H' p.1 = some p.2
 | [], H, I, _, _ => ⟨H, I, Same.refl _, fun p hp => nomatch hp⟩
 | w :: r, H, I, h, nd => by
  obtain ⟨a, b, c⟩ := h w List.mem_cons_self
  rw [List.map_cons, List.nodup_cons] at nd
  have I1 := I.track a b (c _)
  obtain ⟨H', I2, s2, k2⟩ := Inv.trackAll r I1 (fun p hp => by
   obtain ⟨a', b', c'⟩ := h p (List.mem_cons_of_mem _ hp)
   exact ⟨(upd_ne fun z : p.1 = w.1 => nd.1 (by rw [← z]; exact List.mem_map.mpr ⟨p, hp, rfl⟩)).trans a', b', c'⟩) nd.2
  have s1 : Same H (upd H w.1 w.2) := fun b u q => (upd_ne (ne_of_none q a)).trans q
  refine ⟨H', I2, s1.trans s2, fun p hp => ?_⟩
  rcases List.mem_cons.mp hp with rfl | hp
  ·exact s2 _ _ upd_same
  ·exact k2 p hp
end
section
variable {X : Cx}
theorem valsR : ∀ as : List Addr, Vals (as.map V.ref) (as.map Value.ref)
 | [] => .nil
 | _ :: r => .cons rfl (valsR r)
theorem KV.get {κ : Type} : ∀ {kvs : List (κ × V)} {vs : List (κ × Value)} {i : Nat} {p : κ × V}, KV kvs vs → kvs[i]? = some p → ∃ q, vs[i]? = some q ∧ p.1 = q.1 ∧ RelV p.2 q.2
 | _, _, _, _, .nil, e => by simp at e
 | _, _, 0, _, .cons r _, e => by simp at e; subst e; exact ⟨_, rfl, r⟩
 | _, _, i + 1, p, .cons _ t, e => by
  obtain ⟨q, h1, h2⟩ := KV.get (i := i) (p := p) t (by simpa using e)
  exact ⟨q, by simpa using h1, h2⟩
theorem mt_update : MtR X "dict.update" (fun x vs H Q => ∃ d o kvs more, x = .ref d ∧ vs = [.ref o] ∧ H d = some (.dK kvs) ∧ H o = some (.dK more) ∧ d ≠ o ∧ kvs.length + more.length ≤ sizeLine ∧ Q .non (upd H d (.dK (mergeK kvs more)))) := by
 intro pins s σ H x vs v us Q I rx rv h
 obtain ⟨d, o, kvs, more, rfl, rfl, ed, eo, hne, hz, q⟩ := h
 cases rx
 obtain ⟨u, rfl, ru⟩ := vals1 rv
 cases ru
 obtain ⟨z1, hd1, vs1, r1, dd1⟩ := dk_of I.hok ed
 obtain ⟨z2, hd2, vs2, r2, dd2⟩ := dk_of I.hok eo
 refine call_meetsIn PySem.F.slot_dict_update dd1.typeIs PySem.F.entry_dict_update (PySem.F.args_dict_update_2 _ _) (meets_dict_update (mixKind X.prog X.w) d o hne hd2) ⟨vs1, vs2, dd1, dd2, by rw [← r1.length, ← r2.length]; exact hz, fun h' dd' _ hs => ?_⟩
 have he : ∃ q, h'.get? d = some q := let ⟨q, _, _, hq, _⟩ := dd'; ⟨q, hq⟩
 have hl := length_mergeK more kvs
 exact ⟨.non, _, d_write (t' := s.toks) I (by rw [ed]; exact True.intro) hs he (dk_new (by omega) hd1 (r2.merge r1) dd'), rfl, q⟩
noncomputable def IView (v d : Addr) : HO := .ext fun h => h.get? v = some { cls := .type "dict_items", data := .fields #[.ref d] }
theorem mt_items : MtR X "dict.items" (fun x vs H Q => ∃ d kvs, x = .ref d ∧ vs = [] ∧ H d = some (.dK kvs) ∧ ∀ v, H v = none → Q (.ref v) (upd H v (IView v d))) := by
 intro pins s σ H x vs v us Q I rx rv h
 obtain ⟨d, kvs, rfl, rfl, ed, q⟩ := h
 cases rx
 have hus := rv.zero
 subst hus
 obtain ⟨z1, hd1, vs1, r1, dd1⟩ := dk_of I.hok ed
 refine call_meetsIn PySem.F.slot_dict_items dd1.typeIs PySem.F.entry_dict_items (PySem.F.args_dict_items_1 (.ref d)) (meets_dict_items (mixKind X.prog X.w) d hd1) ⟨⟨vs1, dd1⟩, ?_⟩
 have e : (s.heap.push { cls := .type "dict_items", data := .fields #[.ref d] }).get? s.heap.objs.size = some { cls := .type "dict_items", data := .fields #[.ref d] } := Heap.get?_push_size _ rfl
 exact ⟨.ref s.heap.objs.size, _, I.laid (t' := s.toks) (o := IView s.heap.objs.size d) (fun b u q => Heap.get?_push_of_some _ q) (Nat.le_refl _) (show ObjOk X.prog X.w _ _ _ (IView s.heap.objs.size d) from ⟨e, ⟨_, e⟩, fun h1 h2 q k => k _ q⟩), rfl, q _ (I.hok.fresh (Nat.le_refl _))⟩
noncomputable def iiK (p : Int × Int) : Key × V := (Sum.inl p.1, .int p.2)
theorem call_sortedD (hc : X.calm = true) : CallR X (.builtin "sorted") (fun xs H Q => ∃ (v d : Addr) (kvs : List (Int × Int)), xs = [.ref v] ∧ H v = some (IView v d) ∧ H d = some (.dK (kvs.map iiK)) ∧ kvs.length < 64 ∧
  ∀ (l : Addr) (as : List Addr) (ms : List (Int × Int)) (H' : Hp), Same H H' → H l = none → H' l = some (.lst (as.map V.ref)) → (∀ a ∈ as, H a = none) → ms.Perm kvs → (ms.map (·.1)).Pairwise (· ≤ ·) → as.length = ms.length → (∀ (i : Nat) (a : Addr) (p : Int × Int), as[i]? = some a → ms[i]? = some p → H' a = some (.tup [.int p.1, .int p.2])) → Q (.ref l) H') := by
 intro pins s σ H xs us Q I r h
 obtain ⟨v, d, kvs, rfl, ev, ed, h64, q⟩ := h
 obtain ⟨u, rfl, ru⟩ := vals1 r
 cases ru
 obtain ⟨z1, hd1, vs1, r1, dd1⟩ := dk_of I.hok ed
 have hv : s.heap.get? v = some { cls := .type "dict_items", data := .fields #[.ref d] } := (I.hok v _ ev).1
 obtain ⟨ep, da⟩ := dd1.dictAt
 have lv := r1.length
 rw [List.length_map] at lv
 have nd : (kvs.map (·.1)).Nodup := by
  have n1 : (vs1.map (·.1)).Nodup := let ⟨_, _, _, _, _, _, _, _, hn⟩ := dd1; hn
  rw [← r1.keys, List.map_map] at n1
  refine List.pairwise_map.mpr ((List.pairwise_map.mp n1).imp fun {a b} h e => h ?_)
  show (Sum.inl a.1 : Key) = Sum.inl b.1
  rw [e]
 refine Calls.call_function_entry kind_sorted plain_sorted entry_sorted (args_sorted1 (.ref v)) ?_
 unfold Builtin.«sorted»
 refine wpAny_bind (m := checkCount "sorted" 1 1 1) (wpAny_pure ?_)
 refine wpAny_bind (kdx_collect (knd := mixKind X.prog X.w) (kvs := vs1) (ep := ep) (A := X.A.in1) (I.ok.hd hc) ⟨_, hv, rfl, rfl⟩ da (by rw [← lv, sizeLine_eq]; omega) fun h1 tk as hk hl hG => ?_)
 rw [← lv] at hl
 refine wpAny_bind (wpAny_newList ?_ (by rw [List.length_map, hl, sizeLine_eq]; omega))
 have hoL : (h1.push (seqObj "list" (as.map Value.ref).toArray 0)).get? h1.objs.size = some (seqObj "list" (as.map Value.ref).toArray 0) := Heap.get?_push_size _ rfl
 have hna : h1.objs.size ∉ as := fun z => Nat.lt_irrefl _ (hG.there z)
 have key : ∀ i p, kvs[i]? = some p → (fun i => (kvs.getD i (0, 0)).1) i = p.1 ∧ (fun i => (kvs.getD i (0, 0)).2) i = p.2 := fun i p e => by
  dsimp only
  rw [List.getD_eq_getElem?_getD, e]
  exact ⟨rfl, rfl⟩
 have xP : PrAt (h1.push (seqObj "list" (as.map Value.ref).toArray 0)) as (fun i => (kvs.getD i (0, 0)).1) (fun i => (kvs.getD i (0, 0)).2) := fun i a e => by
  obtain ⟨ky, k, x, e1, e2, e3⟩ := hG.pairs i a e
  have hi : i < kvs.length := by rw [← hl]; exact (List.getElem?_eq_some_iff.mp e).1
  obtain ⟨w', e4, rw'⟩ := KV.get r1 (i := i) (p := iiK kvs[i]) (by rw [List.getElem?_map, List.getElem?_eq_getElem hi]; rfl)
  rw [e1] at e4
  cases e4
  obtain ⟨ek, t2, ex⟩ := rw'
  have ek' : k = Sum.inl kvs[i].1 := ek.symm
  subst ek'
  have ex' : x = .int kvs[i].2 t2 := ex
  subst ex'
  obtain ⟨g1, g2⟩ := key i _ (List.getElem?_eq_getElem hi)
  rw [show (fun i => (kvs.getD i (0, 0)).1) i = kvs[i].1 from g1, show (fun i => (kvs.getD i (0, 0)).2) i = kvs[i].2 from g2]
  rcases keyIs_shape (show keyIs (Sum.inl kvs[i].1) ky = true from e2) with ⟨n, t, q1, q2⟩ | ⟨n, t, q1, q2⟩
  ·cases q1
   subst q2
   exact ⟨t, t2, Heap.get?_push_of_some _ e3⟩
  ·cases q1
 have inj : ∀ i j, i < as.length → j < as.length → (fun i => (kvs.getD i (0, 0)).1) i = (fun i => (kvs.getD i (0, 0)).1) j → i = j := fun i j hi hj e => by
  rw [hl] at hi hj
  obtain ⟨g1, _⟩ := key i _ (List.getElem?_eq_getElem hi)
  obtain ⟨g2, _⟩ := key j _ (List.getElem?_eq_getElem hj)
  rw [g1, g2] at e
  rcases Nat.lt_trichotomy i j with z | z | z
  ·exact absurd e (by have := List.pairwise_iff_getElem.mp nd i j (by rw [List.length_map]; exact hi) (by rw [List.length_map]; exact hj) z; simpa using this)
  ·exact z
  ·exact absurd e.symm (by have := List.pairwise_iff_getElem.mp nd j i (by rw [List.length_map]; exact hj) (by rw [List.length_map]; exact hi) z; simpa using this)
 refine wpAny_bind (wpAny_holding (wpAny_call_entry slot_list_sort ⟨_, hoL, rfl⟩ entry_list_sort (sort_prs (s := { s with heap := h1.push (seqObj "list" (as.map Value.ref).toArray 0), toks := tk }) hoL hna xP inj (by rw [hl]; exact h64) fun qs h2 c hq hs kk o2 => ⟨_, rfl, ?_⟩) (args_list_sort _)))
 refine wpAny_pure ⟨_, rfl, ?_⟩
 have ltB : ∀ b o, s.heap.get? b = some o → b < h1.objs.size := fun b o e => Heap.lt_size (hk b o e)
 have k2 : ∀ b o, s.heap.get? b = some o → h2.get? b = some o := fun b o e => kk b o (Nat.ne_of_lt (ltB b o e)) (Heap.get?_push_of_some _ (hk b o e))
 have I2 : Inv X pins σ H { s with heap := h2, toks := tk } := I.kept (t' := tk) k2
 have hB : H h1.objs.size = none := I.none_at hk
 have nB := I.newB hk
 have ha : ∀ a ∈ as, H a = none ∧ NewA X pins a := fun a h => ⟨I.hok.fresh (Nat.le_of_lt (hG.above a h)), I.newA (Nat.le_of_lt (hG.above a h))⟩
 have qlt : ∀ i ∈ qs, i < as.length := fun i hi => List.mem_range.mp (hq.mem_iff.mp hi)
 have ndw : (((h1.objs.size, HO.lst ((qs.map fun i => as.getD i 0).map V.ref)) :: (List.range as.length).map fun i => (as.getD i 0, HO.tup [.int (kvs.getD i (0, 0)).1, .int (kvs.getD i (0, 0)).2])).map (·.1)).Nodup := by
  rw [List.map_cons, List.nodup_cons, List.map_map]
  have e2 : (List.range as.length).map ((fun x => x.1) ∘ fun i => (as.getD i 0, HO.tup [.int (kvs.getD i (0, 0)).1, .int (kvs.getD i (0, 0)).2])) = as := List.ext_getElem (by simp) fun i h1 h2 => by
   rw [List.getElem_map, List.getElem_range]
   show as.getD i 0 = _
   rw [List.getD_eq_getElem?_getD, List.getElem?_eq_getElem h2]
   rfl
  rw [e2]
  exact ⟨hna, hG.rise.imp fun h => Nat.ne_of_lt h⟩
 obtain ⟨H', I3, s3, k3⟩ := I2.trackAll ((h1.objs.size, HO.lst ((qs.map fun i => as.getD i 0).map V.ref)) :: (List.range as.length).map fun i => (as.getD i 0, HO.tup [.int (kvs.getD i (0, 0)).1, .int (kvs.getD i (0, 0)).2])) (fun p hp => by
  rcases List.mem_cons.mp hp with rfl | hp
  ·refine ⟨hB, nB, fun H' => ⟨?_, _, c, valsR _, o2⟩⟩
   rw [List.length_map, List.length_map, hq.length_eq, List.length_range, hl, sizeLine_eq]
   omega
  ·obtain ⟨i, hi, rfl⟩ := List.mem_map.mp hp
   have hi := List.mem_range.mp hi
   have e : as[i]? = some (as.getD i 0) := by rw [List.getD_eq_getElem?_getD, List.getElem?_eq_getElem hi]; rfl
   obtain ⟨t1, t2, eo⟩ := xP i _ e
   have hm := List.mem_of_getElem? e
   obtain ⟨n1, n2⟩ := ha _ hm
   exact ⟨n1, n2, fun H' => ⟨(by show 2 ≤ sizeLine; decide), [_, _], .cons ⟨t1, rfl⟩ (.cons ⟨t2, rfl⟩ .nil), ⟨_, kk _ _ (fun z => hna (z ▸ hm)) eo, rfl, _, rfl⟩⟩⟩) ndw
 ·refine ⟨.ref h1.objs.size, H', I3, rfl, q h1.objs.size (qs.map fun i => as.getD i 0) (qs.map fun i => kvs.getD i (0, 0)) H' s3 hB (k3 _ List.mem_cons_self) (fun a h => ?_) ?_ ?_ (by rw [List.length_map, List.length_map]) fun i a p e1 e2 => ?_⟩
  ·obtain ⟨i, hi, rfl⟩ := List.mem_map.mp h
   have e : as[i]? = some (as.getD i 0) := by rw [List.getD_eq_getElem?_getD, List.getElem?_eq_getElem (qlt i hi)]; rfl
   exact (ha _ (List.mem_of_getElem? e)).1
  ·have e := hq.map fun i => kvs.getD i (0, 0)
   rw [hl] at e
   have e2 : (List.range kvs.length).map (fun i => kvs.getD i (0, 0)) = kvs := List.ext_getElem (by simp) fun i h1 h2 => by
    rw [List.getElem_map, List.getElem_range, List.getD_eq_getElem?_getD, List.getElem?_eq_getElem h2]
    rfl
   rw [e2] at e
   exact e
  ·rw [List.map_map]
   exact hs
  ·rw [List.getElem?_map] at e1 e2
   obtain ⟨j, hj, rfl⟩ := Option.map_eq_some_iff.mp e1
   rw [hj] at e2
   cases e2
   exact k3 _ (List.mem_cons_of_mem _ (List.mem_map.mpr ⟨j, List.mem_range.mpr (qlt j (List.mem_of_getElem? hj)), rfl⟩))
end
end L2
namespace L2
open PySem PySem.Spec PySem.W PyProof.Rows
theorem vals_refs : ∀ {as : List Addr} {us : List Value}, Vals (as.map V.ref) us → us = as.map Value.ref
 | [], _, r => by cases r; rfl
 | a :: as, _, r => by
  cases r with
  | cons r1 r2 => rw [vals_refs r2, show _ = Value.ref a from r1]; rfl
theorem pairs_of {h : Heap} : ∀ {as : List Addr} {kvs : List (Int × Int)}, as.length = kvs.length → (∀ (i : Nat) (a : Addr) (q : Int × Int), as[i]? = some a → kvs[i]? = some q → ∃ t u, IsTup h a #[.int q.1 t, .int q.2 u]) →
  ∃ ps : List (Key × Value), KV (kvs.map iiK) ps ∧ ps.length = kvs.length ∧ ∀ (j : Nat) (kv : Key × Value), ps[j]? = some kv → ∃ a key, as[j]? = some a ∧ IsTup h a #[key, kv.2] ∧ keyIs kv.1 key = true
 | [], [], _, _ => ⟨[], .nil, rfl, fun j kv e => by simp at e⟩
 | [], _ :: _, l, _ => by simp at l
 | _ :: _, [], l, _ => by simp at l
 | a :: as, q :: kvs, l, f => by
  obtain ⟨ps, h1, h2, h3⟩ := pairs_of (as := as) (kvs := kvs) (by simpa using l) fun i a q e1 e2 => f (i + 1) a q (by simpa using e1) (by simpa using e2)
  obtain ⟨t, u, e⟩ := f 0 a q rfl rfl
  refine ⟨(Sum.inl q.1, .int q.2 u) :: ps, .cons ⟨rfl, u, rfl⟩ h1, by rw [List.length_cons, h2, List.length_cons], fun j kv ej => ?_⟩
  cases j with
  | zero => simp at ej; subst ej; exact ⟨a, _, rfl, e, keyIs_int _ _⟩
  | succ j => obtain ⟨b, ky, b1, b2, b3⟩ := h3 j kv (by simpa using ej); exact ⟨b, ky, by simpa using b1, b2, b3⟩
section
variable {X : Cx}
theorem call_dictL (hc : X.calm = true) : CallR X (.type "dict") (fun xs H Q => ∃ (p : Addr) (as : List Addr) (kvs : List (Int × Int)), xs = [.ref p] ∧ H p = some (.lst (as.map V.ref)) ∧ as.length = kvs.length ∧
  (∀ (i : Nat) (a : Addr) (q : Int × Int), as[i]? = some a → kvs[i]? = some q → H a = some (.tup [.int q.1, .int q.2])) ∧ ∀ d, H d = none → Q (.ref d) (upd H d (.dK (mergeK [] (kvs.map iiK))))) := by
 intro pins s σ H xs us Q I r h
 obtain ⟨p, as, kvs, rfl, ep, hl, ht, q⟩ := h
 obtain ⟨u, rfl, ru⟩ := vals1 r
 cases ru
 obtain ⟨z, its, n, rv, lv, e⟩ := I.lstM ep
 have ei := vals_refs rv
 subst ei
 rw [List.length_map] at z
 have hp : p < s.heap.objs.size := Heap.lt_size e
 obtain ⟨ps, kp, pl, pt⟩ := pairs_of (h := s.heap) hl fun i a q e1 e2 => by
  obtain ⟨_, its, r', t'⟩ := I.hok a _ (ht i a q e1 e2)
  cases r' with
  | cons ra rr =>
   cases rr with
   | cons rb rr =>
    cases rr
    obtain ⟨t1, rfl⟩ := ra
    obtain ⟨t2, rfl⟩ := rb
    exact ⟨t1, t2, t'⟩
 refine callType_codes (Q₁ := fun obj s₁ => obj = .ref s.heap.objs.size ∧ s₁ = { s with heap := s.heap.push { cls := .type "dict", data := .dict #[] } }) PySem.F.kt_called_dict (PySem.F.kt_typeCall_dict_1 (.ref p)) PySem.F.entry_dict_init (kt_code_dict_new (.ref p) ⟨rfl, rfl⟩) ?_
 rintro obj s₁ ⟨rfl, rfl⟩
 have hnew : (s.heap.push { cls := .type "dict", data := .dict #[] }).DictOf (mixKind X.prog X.w) s.heap.objs.size [] := Heap.DictOf.new s.heap
 have k0 : ∀ b o, s.heap.get? b = some o → (s.heap.push { cls := .type "dict", data := .dict #[] }).get? b = some o := fun b o e => Heap.get?_push_of_some _ e
 generalize s.heap.push { cls := .type "dict", data := .dict #[] } = h0 at hnew k0
 refine ⟨hnew.typeIs (s := { s with heap := h0 }), PySem.F.args_dict_init_2 _ _, ?_⟩
 unfold Builtin.«dict.__init__»
 refine wpAny_bind ?_
 unfold Builtin.Dict.selfAndRest
 refine wpAny_bind (wpAny_notOrdered_dict (hnew.typeIs (s := { s with heap := h0 })) ?_)
 show wpAny (model X.prog X.w) _ (pure (s.heap.objs.size, [Value.ref p])) _ _ _
 refine wpAny_pure ?_
 show wpAny (model X.prog X.w) _ (Builtin.Dict.updateFrom "dict.__init__" s.heap.objs.size (.ref p) [] .none) _ _ _
 unfold Builtin.Dict.updateFrom
 refine wpAny_bind (wpAny_typeOf (T := "list") ⟨_, k0 _ _ e, rfl⟩ ?_)
 rw [if_pos (by decide)]
 refine wpAny_bind (noKeys (s := { s with heap := h0 }) (k0 _ _ e) rfl rfl rfl (I.ok.hd hc) fun h1 tk k1 => ?_)
 rw [if_pos (show (none : Option Value).isNone = true from rfl)]
 have k01 : ∀ b o, s.heap.get? b = some o → h1.get? b = some o := fun b o e => k1 b o (k0 b o e)
 have dd1 : h1.DictOf (mixKind X.prog X.w) s.heap.objs.size [] := hnew.keep k1
 have ld : s.heap.objs.size < h1.objs.size := by obtain ⟨_, _, _, hg, _⟩ := dd1; exact Heap.lt_size hg
 have lp : p < h1.objs.size := Nat.lt_trans hp ld
 refine wpAny_bind (wpAny_rule ?_)
 refine wpAny_bind (wpAny_pyIter_list (l := p) (items := (as.map Value.ref).toArray) ⟨_, k01 _ _ e, rfl, n, rfl⟩ ?_)
 refine wpAny_pure ⟨plainId_quiet plain_dul _, ?_⟩
 refine dul (knd := mixKind X.prog X.w) (A := X.A.in1) (d := s.heap.objs.size) (it := h1.objs.size) (l := p) (items := as.map Value.ref) (res := .none) (I.ok.hd hc) (Nat.ne_of_lt ld) (Nat.ne_of_gt hp) (Nat.ne_of_gt lp) ps 0 [] _
  ⟨_, Heap.get?_push_size _ rfl, rfl, rfl⟩ ⟨_, Heap.get?_push_of_some _ (k01 _ _ e), rfl, n, rfl⟩ (by rw [List.length_map, hl, pl, Nat.zero_add]) (fun j kv ej => ?_) (dd1.push _) (by rw [List.length_nil, pl, ← hl, Nat.zero_add]; exact z) fun h2 tk2 k2 dd2 => ?_
 ·obtain ⟨a, ky, b1, ⟨o, b2, b3⟩, b4⟩ := pt j kv ej
  have la : a < s.heap.objs.size := Heap.lt_size b2
  exact ⟨a, ky, by rw [Nat.zero_add, List.getElem?_map, b1]; rfl, ⟨o, Heap.get?_push_of_some _ (k01 _ _ b2), b3⟩, b4, Nat.ne_of_lt la, Nat.ne_of_lt (Nat.lt_trans la ld)⟩
 ·refine ⟨rfl, .ref s.heap.objs.size, upd H s.heap.objs.size (.dK (mergeK [] (kvs.map iiK))), I.laid (t' := tk2) (fun b o eb => k2 b o (Nat.ne_of_lt (Heap.lt_size eb)) (Nat.ne_of_lt (Nat.lt_trans (Heap.lt_size eb) ld)) (Heap.get?_push_of_some _ (k01 _ _ eb))) (Nat.le_refl _) ?_, rfl, q _ (I.hok.fresh (Nat.le_refl _))⟩
  have hm := length_mergeK (kvs.map iiK) []
  rw [List.length_nil, List.length_map] at hm
  have hns : (s.heap.objs.size == sysModules) = false := by
   rw [beq_eq_false_iff_ne]
   exact Nat.ne_of_gt I.big
  exact dk_new (by omega) hns (kp.merge .nil) dd2
end
end L2
namespace L2
open PySem PySem.Spec PySem.W PyProof.Rows
theorem dvs_int {H : Hp} : ∀ (ks : List Int), DVs H (ks.map V.int) (ks.map PyData.int)
 | [] => .nil
 | k :: r => .cons (.int k) (dvs_int r)
theorem eqv_nil (ks : List Int) : PyData.eqv (.list (ks.map PyData.int)) (.list []) = decide (ks = []) := by
 cases ks <;> simp [PyData.eqv, PyData.eqvAll]
theorem op_inE {X : Cx} (hu : X.A.units + 64 < cLine) : OpR X (compareOp .In) (fun x y H Q => ∃ (a l : Addr) (as : List Addr) (hs : List (List Int)), x = .ref a ∧ y = .ref l ∧ H a = some (.lst []) ∧ H l = some (.lst (as.map V.ref)) ∧ as.length = hs.length ∧
  (∀ (i : Nat) (b : Addr) (ks : List Int), as[i]? = some b → hs[i]? = some ks → H b = some (.lst (ks.map V.int))) ∧ Q (.bl (hs.any fun ks => decide (ks = []))) H) := by
 intro pins s σ H x y v u Q I rx ry h
 obtain ⟨a, l, as, hs, rfl, rfl, ea, el, hl, hh, q⟩ := h
 cases rx
 cases ry
 obtain ⟨its, r, pl, hz⟩ := I.list (SqL.of el)
 have ei := vals_refs r
 subst ei
 obtain ⟨ba, ra⟩ := dv_reads I (DV.lst ea .nil) (show RelV (.ref a) (.ref a) from rfl)
 classical
 have rd : ∀ (i : Nat) (b : Addr) (ks : List Int), as[i]? = some b → hs[i]? = some ks → ∃ bb, Reads s.heap (.ref b) (.list (ks.map PyData.int)) bb := fun i b ks e1 e2 => dv_reads I (DV.lst (hh i b ks e1 e2) (dvs_int ks)) (show RelV (.ref b) (.ref b) from rfl)
 have fe : ∀ (i : Nat) (b : Addr) (ks : List Int), as[i]? = some b → hs[i]? = some ks → decide (∃ bb, Reads s.heap (.ref b) (.list []) bb) = decide (ks = []) := fun i b ks e1 e2 => by
  obtain ⟨bb, rb⟩ := rd i b ks e1 e2
  rw [decide_eq_decide]
  constructor
  ·rintro ⟨cc, rc⟩
   have e := SeqAt.Reads.unique _ _ _ _ _ (show PyData.canLay0 (.list []) = true from rfl) rc rb
   cases ks with
   | nil => rfl
   | cons k r => simp at e
  ·rintro rfl
   exact ⟨bb, rb⟩
 refine SeqAt.in_listAt (fun w => decide (∃ bb, Reads s.heap w (.list []) bb)) pl.isList (fun w hw => ?_) ⟨.bl _, H, I, rfl, ?_⟩
 ·obtain ⟨i, hi, e⟩ := List.mem_iff_getElem.mp (show w ∈ as.map Value.ref by simpa using hw)
  rw [List.getElem_map] at e
  rw [List.length_map] at hi
  subst e
  have e1 : as[i]? = some as[i] := List.getElem?_eq_getElem hi
  have e2 : hs[i]? = some hs[i] := List.getElem?_eq_getElem (by omega)
  obtain ⟨bb, rb⟩ := rd i _ _ e1 e2
  have z := SeqAt.eqAt_reads _ _ X.A.in1 s _ _ _ _ rb ra (by show PyData.canLayAll0 _ = true; exact ke_canLayAll0 _) rfl (by
   show X.A.in1.units + min (PyData.depthAll _ + 1) (0 + 1) < cLine
   have h1 : X.A.in1.units = X.A.units + 1 := rfl
   omega)
  rw [eqv_nil, ← fe i _ _ e1 e2] at z
  exact z
 ·have e : (as.map Value.ref).toArray.any (fun w => decide (∃ bb, Reads s.heap w (.list []) bb)) = hs.any fun ks => decide (ks = []) := by
   rw [List.any_toArray, List.any_map, Bool.eq_iff_iff, List.any_eq_true, List.any_eq_true]
   constructor
   ·rintro ⟨b, hb, hw⟩
    obtain ⟨i, hi, rfl⟩ := List.mem_iff_getElem.mp hb
    exact ⟨hs[i], List.getElem_mem _, by rw [← fe i _ _ (List.getElem?_eq_getElem hi) (List.getElem?_eq_getElem (by omega))]; exact hw⟩
   ·rintro ⟨ks, hk, hw⟩
    obtain ⟨i, hi, rfl⟩ := List.mem_iff_getElem.mp hk
    refine ⟨as[i], List.getElem_mem _, ?_⟩
    show decide _ = true
    rw [fe i _ _ (List.getElem?_eq_getElem (by omega)) (List.getElem?_eq_getElem hi)]
    exact hw
  rw [e]
  exact q
end L2
namespace L2
open PySem PySem.Spec PyProof.Rows
section
variable {X : Cx}
theorem mt_sindex : MtR X "str.index" (fun x vs H Q => ∃ (z y : Str) (i : Nat) (r : List Nat), x = .str z ∧ vs = [.str y] ∧ Builtin.Str.occurrences z y 0 z.length 1 = i :: r ∧ Q (.int i) H) := by
 intro pins s σ H x vs v us Q I rx rv h
 obtain ⟨z, y, i, r, rfl, rfl, ho, q⟩ := h
 obtain ⟨t, rfl⟩ := rx
 obtain ⟨u, rfl, t', rfl⟩ := vals1 rv
 exact SC.index ho ⟨.int _, H, I.tok _, ⟨_, rfl⟩, q⟩
noncomputable def tTru (K : PySem.W.Frag) (ta : TE) : TT := fun σ H Q => ta σ H fun x H' => ∃ k, TruV K x H' k ∧ Q k H'
theorem pt_tru {a : Expr} {ta : TE} (ha : PE X a ta) (he : ∀ whole, isTrue a X.env whole = (do let v ← whole; standAt a.pos; holding [v] (truthy v))) : PT X a (tTru X.K ta) := pt_truth ha he
end
theorem rd_tru {K : PySem.W.Frag} {ta : TE} {σ : St} {H : Hp} {Q : Bool → Hp → Prop} (h : ta σ H fun x H' => ∃ k, TruV K x H' k ∧ Q k H') : tTru K ta σ H Q := h
theorem comp_zip {K : PySem.W.Frag} {a b : Addr} {xs zs : List V} {k : Nat} {ci : List Nat} {g : TG} {tf : TT} {te : TE} {σ : St} {H : Hp} {Z : Addr → List V → Hp → Prop} (Pv : Nat → List V → Hp → Prop) (hlen : xs.length = zs.length) (h0 : Pv 0 [] H) (hl : ∀ i ys H, i ≤ xs.length → Pv i ys H → SqL K H a xs ∧ SqL K H b zs)
  (hs : ∀ i u v ys H T H', xs[i]? = some u → zs[i]? = some v → Pv i ys H → Same H H' → H' T = some (.tup [u, v]) → g (.ref T) (capS k ci σ) H' fun σ2 H2 => tf σ2 H2 fun b H3 => if b = true then te σ2 H3 fun v H4 => ys.length < sizeLine ∧ Pv (i + 1) (ys ++ [v]) H4 else Pv (i + 1) ys H3)
  (hd : ∀ ys H, Pv xs.length ys H → ys.length ≤ sizeLine ∧ ∀ p, H p = none → Z p ys H) :
  ∃ W : Nat → Nat → List V → Hp → Prop, (∃ m, W 0 m [] H) ∧ ∀ i m ys H, W i m ys H →
   ((Itz K a b).stop i H ∧ ys.length ≤ sizeLine ∧ ∀ p, H p = none → Z p ys H) ∨
   ((Itz K a b).go i H ∧ ∃ N : List V → Hp → Prop, (∀ ys' H', N ys' H' → ∃ m', m' < m ∧ W (i + 1) m' ys' H') ∧ ∀ x H', (Itz K a b).yld i H x H' → g x (capS k ci σ) H' fun σ2 H2 => tf σ2 H2 fun b H3 =>
    if b = true then te σ2 H3 fun v H4 => ys.length < sizeLine ∧ N (ys ++ [v]) H4 else N ys H3) := by
 refine ⟨fun i m ys H => m = xs.length - i ∧ i ≤ xs.length ∧ Pv i ys H, ⟨xs.length, by simp, Nat.zero_le _, h0⟩, ?_⟩
 rintro i m ys H ⟨rfl, hi, p⟩
 obtain ⟨q, q'⟩ := hl i ys H hi p
 by_cases hlt : i < xs.length
 ·refine .inr ⟨⟨xs, xs[i], zs, zs[i], q, by simp [hlt], q', by simp⟩, Pv (i + 1), fun ys' H' p' => ⟨xs.length - (i + 1), by omega, rfl, hlt, p'⟩, fun x H' y => ?_⟩
  obtain ⟨T, u, v, rfl, hT, e, y, y'⟩ := y
  exact hs i u v ys H T H' (y xs q) (y' zs q') p (fun b o h => by rw [e, upd_ne (ne_of_none h hT)]; exact h) (by rw [e]; exact upd_same)
 ·have e : i = xs.length := by omega
  subst e
  exact .inl ⟨⟨xs, zs, q, q', .inl (Nat.le_refl _)⟩, hd ys H p⟩
end L2
namespace L2
open PySem PySem.Spec PyProof.Rows
theorem op_mulR {X : Cx} : OpR X (binaryOp .Mult) (rI (fun _ j => -(2 ^ 64) < j ∧ j < 2 ^ 64) fun i j => .int (i * j)) := opI fun _ _ _ _ _ _ _ hc q => mul_int q (CMul.ok (.inr hc))
end L2
namespace L2
open PySem PySem.Spec PyProof.Rows
section
variable {X : Cx} {e : Expr} {te : TE}
noncomputable def tRevS (K : PySem.W.Frag) (te : TE) (ts : TO) : TE := fun σ H Q => te σ H fun x H1 => ts σ H1 fun st H2 => st = some (-1) ∧ ∃ a xs, x = .ref a ∧ SqL K H2 a xs ∧ ∀ p, H2 p = none → Q (.ref p) (upd H2 p (.lst xs.reverse))
theorem vals_rev {xs : List V} {us : List Value} (h : Vals xs us) : Vals xs.reverse us.reverse := by
 induction h with
 | nil => exact .nil
 | cons r _ ih => rw [List.reverse_cons, List.reverse_cons]; exact ih.append (.cons r .nil)
theorem pe_rev {st : Expr} {ts : TO} {p2 pos : Pos} (he : PE X e te) (hs : PO X (some st) ts) : PE X (.Subscript e (.Slice none none (some st) p2) pos) (tRevS X.K te ts) := by
 intro pins s σ H Q I h
 refine Subscript_ (thn (he pins s σ H _ I h) fun v s1 ⟨x, H1, I1, r1, q1⟩ => ?_)
 refine wpAny_Slice ?_
 rw [evalPart_none]
 refine wpAny_pure ?_
 refine wpAny_pure ?_
 refine thn (hs pins s1 σ H1 _ I1 q1) fun vk s2 ⟨so, H2, I2, pk, est, a, xs, ex, hx, q⟩ => ?_
 subst est ex
 cases r1
 have I3 : Inv X pins σ H2 { s2 with heap := s2.heap.push { cls := .type "slice", data := .fields #[.none, .none, vk] } } := I2.kept (t' := s2.toks) fun b ob q => Heap.get?_push_of_some _ q
 obtain ⟨its, r, ht, hz⟩ := I3.list hx
 have hlen := r.length
 show wpAny (model X.prog X.w) X.A (subscriptTail e (.Slice none none (some st) p2) (.ref a) (.ref s2.heap.objs.size)) (EP X pins σ Q) X.xe { s2 with heap := s2.heap.push { cls := .type "slice", data := .fields #[.none, .none, vk] } }
 refine tail_any (ops := [.ref a, .ref s2.heap.objs.size]) ht.isList.typeIs slot_list_getitem.lookup ?_ (by with_unfolding_all rfl)
 refine wpAny_getItem_list_slice ht.isList (Heap.IsSliceOf.new ..) .none .none pk (by decide) ?_ (by rw [List.size_toArray] <;> omega)
 rw [PySem.W.krv_pick]
 refine ⟨.ref (s2.heap.push { cls := .type "slice", data := .fields #[.none, .none, vk] }).objs.size, _, I3.laid (t' := s2.toks) (o := .lst xs.reverse) (fun b ob q => Heap.get?_push_of_some _ q) (Nat.le_refl _) ?_, rfl, q _ (I3.hok.fresh (Nat.le_refl _))⟩
 exact ⟨by rw [List.length_reverse]; exact hz, _, 0, vals_rev r, Heap.get?_push_size _ rfl⟩
end
theorem rd_revS {K : PySem.W.Frag} {te : TE} {ts : TO} {σ : St} {H : Hp} {Q : VK} (h : te σ H fun x H1 => ts σ H1 fun st H2 => st = some (-1) ∧ ∃ a xs, x = .ref a ∧ SqL K H2 a xs ∧ ∀ p, H2 p = none → Q (.ref p) (upd H2 p (.lst xs.reverse))) : tRevS K te ts σ H Q := h
end L2
namespace L2
open PySem PySem.Spec PySem.W PyProof.Rows
noncomputable abbrev IsZipK (h : Heap) (z TI TO T : Addr) (f : Bool) : Prop := h.get? z = some { cls := .type "zip", dict := none, data := .fields #[rawInt T, .bool f, .bool false, .ref TI, .ref TO], slots := #[] }
section
variable {prog : Program} {w : World} {A : Around} {E : Value → Shared → Prop} {s : Shared}
end
end L2
namespace L2
open PySem PySem.Spec PyProof.Rows
section
variable {X : Cx} {tg : Expr}
end
section
variable {X : Cx}
end
section
variable {prog : Program} {w : World} {A : Around} {E : Value → Shared → Prop} {s : Shared}
end
section
variable {X : Cx} {pos : Pos}
end
end L2
namespace L2
open PySem PySem.Spec PyProof.Rows
end L2
namespace L2
open PySem PySem.Spec PyProof.Rows
section
variable {σ : St} {H : Hp} {D : Ends} {Q : VK} {ta tb te : TE}
theorem rd_seq {t u : TS} (h : t { D with nx := u D } σ H) : tSeq t u D σ H := h
theorem rd_asg {g : TG} (h : te σ H fun x H1 => g x σ H1 D.nx) : tAsg te g D σ H := h
theorem rd_v0 {v : V} {r : St} (h : Q v H) : tVar 0 (some v :: r) H Q := ⟨v, rfl, h⟩
theorem rd_n0 {a0 : Option V} {v : V} {r : St} {R : St → Hp → Prop} (h : R (some v :: r) H) : gName 0 v (a0 :: r) H R := h
theorem rd_v1 {a0 : Option V} {v : V} {r : St} (h : Q v H) : tVar 1 (a0 :: some v :: r) H Q := ⟨v, rfl, h⟩
theorem rd_n1 {a0 a1 : Option V} {v : V} {r : St} {R : St → Hp → Prop} (h : R (a0 :: some v :: r) H) : gName 1 v (a0 :: a1 :: r) H R := h
theorem rd_v2 {a0 a1 : Option V} {v : V} {r : St} (h : Q v H) : tVar 2 (a0 :: a1 :: some v :: r) H Q := ⟨v, rfl, h⟩
theorem rd_n2 {a0 a1 a2 : Option V} {v : V} {r : St} {R : St → Hp → Prop} (h : R (a0 :: a1 :: some v :: r) H) : gName 2 v (a0 :: a1 :: a2 :: r) H R := h
theorem rd_v3 {a0 a1 a2 : Option V} {v : V} {r : St} (h : Q v H) : tVar 3 (a0 :: a1 :: a2 :: some v :: r) H Q := ⟨v, rfl, h⟩
theorem rd_n3 {a0 a1 a2 a3 : Option V} {v : V} {r : St} {R : St → Hp → Prop} (h : R (a0 :: a1 :: a2 :: some v :: r) H) : gName 3 v (a0 :: a1 :: a2 :: a3 :: r) H R := h
theorem rd_v4 {a0 a1 a2 a3 : Option V} {v : V} {r : St} (h : Q v H) : tVar 4 (a0 :: a1 :: a2 :: a3 :: some v :: r) H Q := ⟨v, rfl, h⟩
theorem rd_n4 {a0 a1 a2 a3 a4 : Option V} {v : V} {r : St} {R : St → Hp → Prop} (h : R (a0 :: a1 :: a2 :: a3 :: some v :: r) H) : gName 4 v (a0 :: a1 :: a2 :: a3 :: a4 :: r) H R := h
theorem rd_v5 {a0 a1 a2 a3 a4 : Option V} {v : V} {r : St} (h : Q v H) : tVar 5 (a0 :: a1 :: a2 :: a3 :: a4 :: some v :: r) H Q := ⟨v, rfl, h⟩
theorem rd_n5 {a0 a1 a2 a3 a4 a5 : Option V} {v : V} {r : St} {R : St → Hp → Prop} (h : R (a0 :: a1 :: a2 :: a3 :: a4 :: some v :: r) H) : gName 5 v (a0 :: a1 :: a2 :: a3 :: a4 :: a5 :: r) H R := h
theorem rd_v6 {a0 a1 a2 a3 a4 a5 : Option V} {v : V} {r : St} (h : Q v H) : tVar 6 (a0 :: a1 :: a2 :: a3 :: a4 :: a5 :: some v :: r) H Q := ⟨v, rfl, h⟩
theorem rd_n6 {a0 a1 a2 a3 a4 a5 a6 : Option V} {v : V} {r : St} {R : St → Hp → Prop} (h : R (a0 :: a1 :: a2 :: a3 :: a4 :: a5 :: some v :: r) H) : gName 6 v (a0 :: a1 :: a2 :: a3 :: a4 :: a5 :: a6 :: r) H R := h
theorem rd_v7 {a0 a1 a2 a3 a4 a5 a6 : Option V} {v : V} {r : St} (h : Q v H) : tVar 7 (a0 :: a1 :: a2 :: a3 :: a4 :: a5 :: a6 :: some v :: r) H Q := ⟨v, rfl, h⟩
theorem rd_n7 {a0 a1 a2 a3 a4 a5 a6 a7 : Option V} {v : V} {r : St} {R : St → Hp → Prop} (h : R (a0 :: a1 :: a2 :: a3 :: a4 :: a5 :: a6 :: some v :: r) H) : gName 7 v (a0 :: a1 :: a2 :: a3 :: a4 :: a5 :: a6 :: a7 :: r) H R := h
theorem rd_v8 {a0 a1 a2 a3 a4 a5 a6 a7 : Option V} {v : V} {r : St} (h : Q v H) : tVar 8 (a0 :: a1 :: a2 :: a3 :: a4 :: a5 :: a6 :: a7 :: some v :: r) H Q := ⟨v, rfl, h⟩
theorem rd_n8 {a0 a1 a2 a3 a4 a5 a6 a7 a8 : Option V} {v : V} {r : St} {R : St → Hp → Prop} (h : R (a0 :: a1 :: a2 :: a3 :: a4 :: a5 :: a6 :: a7 :: some v :: r) H) : gName 8 v (a0 :: a1 :: a2 :: a3 :: a4 :: a5 :: a6 :: a7 :: a8 :: r) H R := h
theorem rd_v9 {a0 a1 a2 a3 a4 a5 a6 a7 a8 : Option V} {v : V} {r : St} (h : Q v H) : tVar 9 (a0 :: a1 :: a2 :: a3 :: a4 :: a5 :: a6 :: a7 :: a8 :: some v :: r) H Q := ⟨v, rfl, h⟩
theorem rd_n9 {a0 a1 a2 a3 a4 a5 a6 a7 a8 a9 : Option V} {v : V} {r : St} {R : St → Hp → Prop} (h : R (a0 :: a1 :: a2 :: a3 :: a4 :: a5 :: a6 :: a7 :: a8 :: some v :: r) H) : gName 9 v (a0 :: a1 :: a2 :: a3 :: a4 :: a5 :: a6 :: a7 :: a8 :: a9 :: r) H R := h
theorem rd_v10 {a0 a1 a2 a3 a4 a5 a6 a7 a8 a9 : Option V} {v : V} {r : St} (h : Q v H) : tVar 10 (a0 :: a1 :: a2 :: a3 :: a4 :: a5 :: a6 :: a7 :: a8 :: a9 :: some v :: r) H Q := ⟨v, rfl, h⟩
theorem rd_n10 {a0 a1 a2 a3 a4 a5 a6 a7 a8 a9 a10 : Option V} {v : V} {r : St} {R : St → Hp → Prop} (h : R (a0 :: a1 :: a2 :: a3 :: a4 :: a5 :: a6 :: a7 :: a8 :: a9 :: some v :: r) H) : gName 10 v (a0 :: a1 :: a2 :: a3 :: a4 :: a5 :: a6 :: a7 :: a8 :: a9 :: a10 :: r) H R := h
theorem rd_v11 {a0 a1 a2 a3 a4 a5 a6 a7 a8 a9 a10 : Option V} {v : V} {r : St} (h : Q v H) : tVar 11 (a0 :: a1 :: a2 :: a3 :: a4 :: a5 :: a6 :: a7 :: a8 :: a9 :: a10 :: some v :: r) H Q := ⟨v, rfl, h⟩
theorem rd_n11 {a0 a1 a2 a3 a4 a5 a6 a7 a8 a9 a10 a11 : Option V} {v : V} {r : St} {R : St → Hp → Prop} (h : R (a0 :: a1 :: a2 :: a3 :: a4 :: a5 :: a6 :: a7 :: a8 :: a9 :: a10 :: some v :: r) H) : gName 11 v (a0 :: a1 :: a2 :: a3 :: a4 :: a5 :: a6 :: a7 :: a8 :: a9 :: a10 :: a11 :: r) H R := h
theorem rd_v12 {a0 a1 a2 a3 a4 a5 a6 a7 a8 a9 a10 a11 : Option V} {v : V} {r : St} (h : Q v H) : tVar 12 (a0 :: a1 :: a2 :: a3 :: a4 :: a5 :: a6 :: a7 :: a8 :: a9 :: a10 :: a11 :: some v :: r) H Q := ⟨v, rfl, h⟩
theorem rd_n12 {a0 a1 a2 a3 a4 a5 a6 a7 a8 a9 a10 a11 a12 : Option V} {v : V} {r : St} {R : St → Hp → Prop} (h : R (a0 :: a1 :: a2 :: a3 :: a4 :: a5 :: a6 :: a7 :: a8 :: a9 :: a10 :: a11 :: some v :: r) H) : gName 12 v (a0 :: a1 :: a2 :: a3 :: a4 :: a5 :: a6 :: a7 :: a8 :: a9 :: a10 :: a11 :: a12 :: r) H R := h
theorem rd_const {v : V} (h : Q v H) : tC v σ H Q := h
theorem rd_op {r : R2} (h : ta σ H fun x H1 => tb σ H1 fun y H2 => r x y H2 Q) : tOp r ta tb σ H Q := h
theorem rd_un {r : V → Hp → VK → Prop} (h : ta σ H fun x H1 => r x H1 Q) : tUn r ta σ H Q := h
theorem rd_i0 {g : Int → Int → V} {i j : Int} (h : Q (g i j) H) : rI0 g (.int i) (.int j) H Q := ⟨i, j, rfl, rfl, h⟩
theorem rd_i {C : Int → Int → Prop} {g : Int → Int → V} {i j : Int} (c : C i j) (h : Q (g i j) H) : rI C g (.int i) (.int j) H Q := ⟨i, j, rfl, rfl, c, h⟩
theorem rd_u {g : Int → V} {i : Int} (h : Q (g i) H) : rU g (.int i) H Q := ⟨i, rfl, h⟩
theorem rd_eqI {i j : Int} (h : Q (.bl (decide (i = j))) H) : rEq (.int i) (.int j) H Q := by
 refine ⟨rfl, ?_⟩
 rw [show decide (V.int i = V.int j) = decide (i = j) by simp]
 exact h
theorem rd_neI {i j : Int} (h : Q (.bl (!decide (i = j))) H) : rNe (.int i) (.int j) H Q := by
 refine ⟨rfl, ?_⟩
 rw [show decide (V.int i = V.int j) = decide (i = j) by simp]
 exact h
theorem rd_eqS {i j : Str} (h : Q (.bl (decide (i = j))) H) : rEq (.str i) (.str j) H Q := by
 refine ⟨rfl, ?_⟩
 rw [show decide (V.str i = V.str j) = decide (i = j) by simp]
 exact h
theorem rd_neS {i j : Str} (h : Q (.bl (!decide (i = j))) H) : rNe (.str i) (.str j) H Q := by
 refine ⟨rfl, ?_⟩
 rw [show decide (V.str i = V.str j) = decide (i = j) by simp]
 exact h
theorem rd_if {c : TT} {t u : TS} (h : c σ H fun b H1 => if b = true then t D σ H1 else u D σ H1) : tIfS c t u D σ H := h
theorem rd_test {R : Bool → Hp → Prop} (h : te σ H fun x H' => ∃ k, x = .bl k ∧ R k H') : tTest te σ H R := h
theorem rd_tB {R : Bool → Hp → Prop} (h : te σ H fun x H' => ∃ k, x = .bl k ∧ R k H') : tB te σ H R := h
theorem rd_blP {k : Bool} {R : Bool → Prop} (h : R k) : ∃ k', V.bl k = .bl k' ∧ R k' := ⟨k, rfl, h⟩
theorem rd_not {t : TT} {R : Bool → Hp → Prop} (h : t σ H fun c H1 => R (!c) H1) : tNot t σ H R := h
theorem rd_and {t u : TT} {R : Bool → Hp → Prop} (h : t σ H fun c H1 => if c = true then u σ H1 R else R false H1) : tAnd t u σ H R := h
theorem rd_or {t u : TT} {R : Bool → Hp → Prop} (h : t σ H fun c H1 => if c = true then R true H1 else u σ H1 R) : tOr t u σ H R := h
theorem rd_andV (h : ta σ H fun x H1 => ∃ c, x = .bl c ∧ if c = true then tb σ H1 Q else Q (.bl false) H1) : tAndV ta tb σ H Q := h
theorem rd_ifE {t : TT} (h : t σ H fun c H1 => if c = true then ta σ H1 Q else tb σ H1 Q) : tIf t ta tb σ H Q := h
theorem rd_ret (h : te σ H D.rt) : tRet te D σ H := h
theorem rd_next (h : D.nx σ H) : tNext D σ H := h
theorem rd_drop (h : te σ H fun _ H1 => D.nx σ H1) : tDrop te D σ H := h
theorem rd_cb {r : List V → Hp → VK → Prop} {t : TA} (h : t σ H fun vs H1 => r vs H1 Q) : tCB r t σ H Q := h
theorem rd_call {sp : Sp} {dvs : List V} {E : XK} {t : TA} (h : t σ H fun vs H1 => sp (vs ++ dvs) H1 Q E) : tCall sp dvs E t σ H Q := h
theorem rd_fld {K : PySem.W.Frag} {f : Str} (h : ta σ H fun x H1 => ∃ a C dx fs v, x = .ref a ∧ H1 a = some (.ins C dx fs) ∧ Cls K C ∧ NoAttr K C f ∧ fs.lookup f = some v ∧ Q v H1) : tFld K ta f σ H Q := h
theorem rd_sfld {K : PySem.W.Frag} {f : Str} (h : tb σ H fun y H1 => ta σ H1 fun x H2 => ∃ a C dx fs, x = .ref a ∧ H2 a = some (.ins C dx fs) ∧ Cls K C ∧ NoAttr K C f ∧ fs.length < 1000 ∧ D.nx σ (upd H2 a (.ins C dx (putF f y fs)))) : sFld K ta tb f D σ H := h
theorem rd_meth {C : Addr} {m : Str} {sp : Sp} {dvs : List V} {E : XK} {t : TA} (h : ta σ H fun x H1 => ∃ a dx fs, x = .ref a ∧ H1 a = some (.ins C dx fs) ∧ fs.lookup m = none ∧ t σ H1 fun vs H2 => sp (x :: (vs ++ dvs)) H2 Q E) : tMeth C m sp dvs E ta t σ H Q := h
theorem rd_make {C : Addr} {sp : Sp} {dvs : List V} {E : XK} {t : TA} (h : t σ H fun vs H1 => ∀ x dx, H1 x = none → H1 dx = none → dx ≠ x → sp (.ref x :: (vs ++ dvs)) (upd (upd H1 dx (.own x)) x (.ins C dx [])) (fun v H2 => v = .non ∧ Q (.ref x) H2) E) : tMake C sp dvs E t σ H Q := h
theorem rd_nil {R : List V → Hp → Prop} (h : R [] H) : tNil σ H R := h
theorem rd_cons {tr : TA} {R : List V → Hp → Prop} (h : ta σ H fun x H1 => tr σ H1 fun xs H2 => R (x :: xs) H2) : tCons ta tr σ H R := h
theorem rd_lst {t : TA} (h : t σ H fun xs H1 => xs.length ≤ sizeLine ∧ ∀ p, H1 p = none → Q (.ref p) (upd H1 p (.lst xs))) : tLst t σ H Q := h
theorem rd_tup {t : TA} (h : t σ H fun xs H1 => xs.length ≤ sizeLine ∧ ∀ p, H1 p = none → Q (.ref p) (upd H1 p (.tup xs))) : tTup t σ H Q := h
theorem rd_chain {r r' : R2} {tc : TE} (h : ta σ H fun x H1 => tb σ H1 fun y H2 => r x y H2 fun z H3 => ∃ k, z = .bl k ∧ (if k = true then tc σ H3 fun w' H4 => r' y w' H4 Q else Q (.bl false) H3)) : tChain r r' ta tb tc σ H Q := h
theorem rd_bm {K : PySem.W.Frag} {T : String} {r : V → List V → Hp → VK → Prop} {t : TA} (h : te σ H fun x H1 => tyV K T x H1 ∧ t σ H1 fun xs H2 => r x xs H2 Q) : tBM K T r te t σ H Q := h
theorem rd_sl {r : V → Option Int → Option Int → Hp → VK → Prop} {tl th : TO} (h : te σ H fun x H1 => tl σ H1 fun l H2 => th σ H2 fun u H3 => r x l u H3 Q) : tSl r te tl th σ H Q := h
theorem rd_nopart {R : Option Int → Hp → Prop} (h : R none H) : tNoPart σ H R := h
theorem rd_part {R : Option Int → Hp → Prop} (h : te σ H fun x H1 => ∃ i, x = .int i ∧ R (some i) H1) : tPart te σ H R := h
theorem rd_int {i : Int} {R : Int → Prop} (h : R i) : ∃ i', V.int i = .int i' ∧ R i' := ⟨i, rfl, h⟩
theorem iteD {p A B : Prop} [Decidable p] (h1 : p → A) (h2 : ¬ p → B) : if decide p = true then A else B := by
 by_cases h : p
 ·rw [if_pos (decide_eq_true h)]; exact h1 h
 ·rw [if_neg (by simpa using h)]; exact h2 h
theorem iteN {p A B : Prop} [Decidable p] (h1 : ¬ p → A) (h2 : p → B) : if (!decide p) = true then A else B := by
 by_cases h : p
 ·rw [if_neg (by simpa using h)]; exact h2 h
 ·rw [if_pos (by simpa using h)]; exact h1 h
theorem rd_rng1 {ta : TA} {R : It → Hp → Prop} (h : ta σ H fun vs H1 => ∃ j : Int, vs = [.int j] ∧ -(2 ^ 62) ≤ j ∧ j < 2 ^ 62 ∧ R (Itr 0 j.toNat) H1) : iRng1 ta σ H R := h
theorem rd_iList {K : PySem.W.Frag} {R : It → Hp → Prop} (h : te σ H fun x H1 => ∃ a, x = .ref a ∧ (∃ xs, SqL K H1 a xs) ∧ R (Itl K a) H1) : iList K te σ H R := h
theorem rd_p15 (h : Q (.int (10 ^ 15)) H) : rI CPow (fun i j => .int (i ^ j.toNat)) (.int 10) (.int 15) H Q := ⟨10, 15, rfl, rfl, ⟨by decide, by decide, by decide⟩, h⟩
theorem rd_p16 (h : Q (.int (10 ^ 16)) H) : rI CPow (fun i j => .int (i ^ j.toNat)) (.int 10) (.int 16) H Q := ⟨10, 16, rfl, rfl, ⟨by decide, by decide, by decide⟩, h⟩
theorem rd_p17 (h : Q (.int (10 ^ 17)) H) : rI CPow (fun i j => .int (i ^ j.toNat)) (.int 10) (.int 17) H Q := ⟨10, 17, rfl, rfl, ⟨by decide, by decide, by decide⟩, h⟩
theorem rd_p18 (h : Q (.int (10 ^ 18)) H) : rI CPow (fun i j => .int (i ^ j.toNat)) (.int 10) (.int 18) H Q := ⟨10, 18, rfl, rfl, ⟨by decide, by decide, by decide⟩, h⟩
theorem rd_p60 (h : Q (.int (10 ^ 60)) H) : rI CPow (fun i j => .int (i ^ j.toNat)) (.int 10) (.int 60) H Q := ⟨10, 60, rfl, rfl, ⟨by decide, by decide, by decide⟩, h⟩
theorem rd_for {wi : TI} {g : TG} {tb : TS} (h : wi σ H fun J H1 => ∃ W : Nat → Nat → St → Hp → Prop, (∃ m, W 0 m σ H1) ∧ ∀ i m σ H, W i m σ H →
 (J.stop i H ∧ D.nx σ H) ∨ (J.go i H ∧ ∃ N : St → Hp → Prop, (∀ σ' H', N σ' H' → ∃ m', m' < m ∧ W (i + 1) m' σ' H') ∧ ∀ x H', J.yld i H x H' → g x σ H' fun σ2 H2 => tb { D with nx := N, ct := N, bk := D.nx } σ2 H2)) : tFor wi g tb D σ H := h
theorem rd_comp {wi : TI} {n : Nat} {ci : List Nat} {g : TG} {tf : TT} (h : wi σ H fun J H1 => ∃ W : Nat → Nat → List V → Hp → Prop, (∃ m, W 0 m [] H1) ∧ ∀ i m ys H, W i m ys H →
 (J.stop i H ∧ ys.length ≤ sizeLine ∧ ∀ p, H p = none → Q (.ref p) (upd H p (.lst ys))) ∨
 (J.go i H ∧ ∃ N : List V → Hp → Prop, (∀ ys' H', N ys' H' → ∃ m', m' < m ∧ W (i + 1) m' ys' H') ∧ ∀ x H', J.yld i H x H' → g x (capS n ci σ) H' fun σ2 H2 => tf σ2 H2 fun b H3 =>
  if b = true then te σ2 H3 fun v H4 => ys.length < sizeLine ∧ N (ys ++ [v]) H4 else N ys H3)) : tComp wi n ci g tf te σ H Q := h
theorem rd_yes {R : Bool → Hp → Prop} (h : R true H) : tYes σ H R := h
theorem rd_cap {n : Nat} {ci : List Nat} {g : TG} {x : V} {σ' : St} {R : St → Hp → Prop} (e : capS n ci σ = σ') (h : g x σ' H R) : g x (capS n ci σ) H R := by rw [e]; exact h
theorem rd_start {t : TS} {σ' : St} (e : σ = σ') (h : t D σ' H) : t D σ H := by subst e; exact h
theorem mul_in {x y A B : Int} (h1 : -A ≤ x) (h2 : x ≤ A) (h3 : -B ≤ y) (h4 : y ≤ B) : -(A * B) ≤ x * y ∧ x * y ≤ A * B := by
 have hx : x.natAbs ≤ A.toNat := by omega
 have hy : y.natAbs ≤ B.toNat := by omega
 have h := Nat.mul_le_mul hx hy
 rw [← Int.natAbs_mul] at h
 have e : ((A.toNat * B.toNat : Nat) : Int) = A * B := by
  rw [Int.natCast_mul, Int.toNat_of_nonneg (by omega), Int.toNat_of_nonneg (by omega)]
 have h' : ((x * y).natAbs : Int) ≤ A * B := by rw [← e]; exact Int.ofNat_le.mpr h
 omega
theorem same_of {H H' : Hp} {p : Addr} {o : HO} (h : H p = none) (e : upd H p o = H') : Same H H' := fun b u q => by rw [← e, upd_ne (ne_of_none q h)]; exact q
theorem at_of {H H' : Hp} {p : Addr} {o : HO} (e : upd H p o = H') : H' p = some o := by rw [← e]; exact upd_same
end
end L2
local macro_rules | `(tactic| walk_at "side") => `(tactic| first | with_reducible assumption | exact L2.cdivB (by omega) (by omega) | exact L2.mulOk (by omega) (by omega) (by omega) (by omega) | exact L2.mulOkC (by first | assumption | exact L2.bits_ediv (by assumption) _) (by omega) (by omega) | omega)
local macro_rules | `(tactic| walk_at "goA") => `(tactic| with_reducible (first | refine L2.rd_seq ?_ | refine L2.rd_asg ?_ | refine L2.rd_op ?_ | refine L2.rd_const ?_ | refine L2.rd_i0 ?_ | refine L2.rd_cons ?_ | refine L2.rd_nil ?_ | refine L2.rd_call ?_ | refine L2.rd_ret ?_ | refine L2.rd_if ?_ | refine L2.rd_test ?_ | refine L2.rd_tB ?_ | refine L2.rd_blP ?_ | refine L2.rd_not ?_ | refine L2.rd_next ?_))
local macro_rules | `(tactic| walk_at "goB") => `(tactic| with_reducible (first | refine L2.rd_un ?_ | refine L2.rd_u ?_ | refine L2.rd_and ?_ | refine L2.rd_or ?_ | refine L2.rd_andV ?_ | refine L2.rd_ifE ?_ | refine L2.rd_drop ?_ | refine L2.rd_cb ?_ | refine L2.rd_lst ?_ | refine L2.rd_tup ?_ | refine L2.rd_chain ?_ | refine L2.rd_bm ?_ | refine L2.rd_sl ?_ | refine L2.rd_nopart ?_ | refine L2.rd_part ?_ | refine L2.rd_eqI ?_ | refine L2.rd_neI ?_ | refine L2.rd_eqS ?_ | refine L2.rd_neS ?_ | refine L2.rd_str ?_ | refine L2.rd_int ?_ | refine L2.rd_rng1 ?_ | refine L2.rd_iList ?_ | refine L2.rd_for ?_ | refine L2.rd_comp ?_ | refine L2.rd_yes ?_ | walk_at "goD"))
local macro_rules | `(tactic| walk_at "goD") => `(tactic| with_reducible (first | refine L2.rd_dget ?_ | refine L2.rd_iTup ?_ | refine L2.rd_sub ?_ | refine L2.rd_iEnum ?_ | refine L2.rd_iZip ?_ | refine L2.rd_dnew ?_ | refine L2.rd_dput ?_ | refine L2.rd_bm0 ?_ | refine L2.rd_tru ?_ | refine L2.rd_revS ?_ | refine L2.rd_fld ?_ | refine L2.rd_sfld ?_ | refine L2.rd_meth ?_ | refine L2.rd_make ?_))
local macro_rules | `(tactic| walk_at "goP") => `(tactic| with_reducible (first | refine L2.rd_p15 ?_ | refine L2.rd_p16 ?_ | refine L2.rd_p17 ?_ | refine L2.rd_p18 ?_ | refine L2.rd_p60 ?_))
local macro_rules | `(tactic| walk_at "goV") => `(tactic| with_reducible (first | refine L2.rd_v0 ?_ | refine L2.rd_v1 ?_ | refine L2.rd_v2 ?_ | refine L2.rd_v3 ?_ | refine L2.rd_v4 ?_ | refine L2.rd_v5 ?_ | refine L2.rd_v6 ?_ | refine L2.rd_v7 ?_ | refine L2.rd_v8 ?_ | refine L2.rd_v9 ?_ | refine L2.rd_v10 ?_ | refine L2.rd_v11 ?_ | refine L2.rd_v12 ?_))
local macro_rules | `(tactic| walk_at "goN") => `(tactic| with_reducible (first | refine L2.rd_n0 ?_ | refine L2.rd_n1 ?_ | refine L2.rd_n2 ?_ | refine L2.rd_n3 ?_ | refine L2.rd_n4 ?_ | refine L2.rd_n5 ?_ | refine L2.rd_n6 ?_ | refine L2.rd_n7 ?_ | refine L2.rd_n8 ?_ | refine L2.rd_n9 ?_ | refine L2.rd_n10 ?_ | refine L2.rd_n11 ?_ | refine L2.rd_n12 ?_))
local macro_rules | `(tactic| walk_at "go1") => `(tactic| first | walk_at "goA" | walk_at "goV" | walk_at "goB" | walk_at "goN" | walk_at "goP" | (with_reducible refine L2.rd_i ?c ?_; (case c => ((try dsimp only); walk_at "side"))))
local macro_rules | `(tactic| walk_at "go") => `(tactic| repeat walk_at "go1")
namespace Fs
noncomputable def G (b s : Nat) : Nat → Nat → Nat
 | 0, _ => 0
 | m + 1, r => G b s m r + (b * m + r) / s
noncomputable def F (s q b : Nat) : Nat → Nat
 | 0 => 0
 | n + 1 => F s q b n + (s * n + q) / b
noncomputable def fs : Nat → Int → Int → Int → Int
 | 0, _, _, _ => 0
 | n + 1, t, p, b => fs n t p b + (t * (n : Int) + p) / b
end Fs
namespace Rp
noncomputable def ramp (s g b j : Int) : Int := s + (g - s) * j / b
noncomputable def reached (s g b h : Int) : Int := if g > s then -((s - h) * b / (g - s)) else (s - h - 1) * b / (s - g) + 1
noncomputable def beyond (s g h : Int) : Int := if g > s then h + 1 else h - 1
theorem ends {s g b : Int} (hb : 0 < b) : ramp s g b b = g := by
 unfold ramp
 rw [Int.mul_ediv_cancel _ (by omega)]
 omega
noncomputable def imax (a b : Int) : Int := if b > a then b else a
noncomputable def imin (a b : Int) : Int := if b < a then b else a
-- the stretch
noncomputable def fst (s g b h : Int) : Int := if g = s then 0 else imax (reached s g b h) 0
noncomputable def lst (s g b h m : Int) : Int := if g = s then (if h = s then m else 0) else imax (fst s g b h) (imin (reached s g b (beyond s g h)) m)
noncomputable def count (s g b h m : Int) : Int := lst s g b h m - fst s g b h
end Rp
namespace Rp
end Rp
namespace Pr
open PySem L2
noncomputable def cell (ns : List Int) (k : Int) : Int := ns.getD k.toNat 0
theorem at_cell {ns : List Int} {k : Int} (h0 : 0 ≤ k) (h : k < (ns.length : Int)) : atI (ns.map V.int) k = some (.int (cell ns k)) := by
 have ek : k = ((k.toNat : Nat) : Int) := by omega
 have hk : k.toNat < ns.length := by omega
 have q : atI (ns.map V.int) ((k.toNat : Nat) : Int) = some (.int ns[k.toNat]) := atI_nat (by rw [List.getElem?_map, List.getElem?_eq_getElem hk] <;> rfl)
 rw [← ek] at q
 rw [q]
 unfold cell
 rw [List.getD_eq_getElem?_getD, List.getElem?_eq_getElem hk]
 rfl
end Pr
namespace Pr
open PySem L2
noncomputable def sp_law (K : PySem.W.Frag) : Sp := fun vs H Q _ => ∃ (a : Addr) (ns : List Int), vs = [.ref a] ∧ SqL K H a (ns.map V.int) ∧ ns.length ≤ 63 ∧ (∀ x ∈ ns, Builtin.Int.intBits x ≤ 1048576) ∧ ∀ H', Q (.bl true) H'
end Pr
namespace Pr
open PySem L2
theorem mem_cut {ns : List Int} {lo hi : Option Int} {x : V} (h : x ∈ cutV (ns.map V.int) lo hi) : ∃ c ∈ ns, x = .int c := by
 have h1 : x ∈ ns.map V.int := List.mem_of_mem_drop (List.mem_of_mem_take h)
 obtain ⟨c, hc, e⟩ := List.mem_map.mp h1
 exact ⟨c, hc, e.symm⟩
end Pr
namespace Pr
open PySem L2
end Pr
namespace Pr
open PySem L2
theorem get_cell {ns : List Int} {k : Int} (_h0 : 0 ≤ k) (h : k < (ns.length : Int)) : ns[k.toNat]? = some (cell ns k) := by
 have hk : k.toNat < ns.length := by omega
 unfold cell
 rw [List.getD_eq_getElem?_getD, List.getElem?_eq_getElem hk]
 rfl
end Pr
namespace Pr
open PySem L2
end Pr
namespace Pr
open PySem L2
noncomputable def B4 (s g b j : Int) : Prop := -10 ^ 61 ≤ s ∧ s ≤ 10 ^ 61 ∧ -10 ^ 61 ≤ g ∧ g ≤ 10 ^ 61 ∧ 0 < b ∧ b ≤ 10 ^ 61 ∧ -10 ^ 61 ≤ j ∧ j ≤ 10 ^ 61
noncomputable def sp_ramp : Sp := fun vs H Q _ => ∃ s g b j : Int, vs = [.int s, .int g, .int b, .int j] ∧ B4 s g b j ∧ Q (.int (Rp.ramp s g b j)) H
end Pr
namespace Pr
open PySem L2
end Pr
namespace Ws
open PySem PySem.NumText L2
noncomputable def digs : List Nat := [48, 49, 50, 51, 52, 53, 54, 55, 56, 57]
noncomputable def lets : Str := "abcdefghijklmnopqrstuvwxyz"
theorem mem_digs {c : Nat} : c ∈ digs ↔ 48 ≤ c ∧ c ≤ 57 := by
 unfold digs
 simp only [List.mem_cons, List.not_mem_nil, or_false]
 omega
noncomputable def among (x z : Str) : Bool := decide (∀ c ∈ x.cps.toList, c ∈ z.cps.toList)
noncomputable def isW (x : Str) : Bool := decide (1 ≤ x.length ∧ x.length ≤ 8) && among x lets
theorem len_is (x : Str) : x.cps.toList.length = x.length := Array.length_toList
theorem same_upd {H H' : Hp} {p : Addr} {o : HO} (h : Same H H') (hp : H p = none) : Same H (upd H' p o) := fun b u q => by
 rw [upd_ne (ne_of_none q hp)]
 exact h b u q
end Ws
namespace Ws
open PySem PySem.NumText L2
end Ws
namespace Ws
open PySem L2
end Ws
namespace Rm
open PySem PySem.NumText PyProof.Rows L2
end Rm
namespace Rm
open PySem PySem.NumText PyProof.Rows L2
theorem cutTo {x : Str} {j : Int} (h0 : 0 ≤ j) (h : j ≤ (x.length : Int)) : (Txt.slice x none (some j)).cps.toList = x.cps.toList.take j.toNat := by
 have e : Txt.slice x none (some j) = ⟨((x.cps.toList.drop 0).take (j - 0).toNat).toArray⟩ := StrLaws.sliceText_to ⟨h0, by rw [Ws.len_is]; exact h⟩
 rw [e]
 simp
theorem cutFrom {x : Str} {i : Int} (h0 : 0 ≤ i) (h : i ≤ (x.length : Int)) : (Txt.slice x (some i) none).cps.toList = x.cps.toList.drop i.toNat := by
 have e : Txt.slice x (some i) none = ⟨((x.cps.toList.drop i.toNat).take ((x.cps.toList.length : Int) - i).toNat).toArray⟩ := StrLaws.sliceText_from ⟨h0, by rw [Ws.len_is]; exact h⟩
 rw [e]
 show List.take _ _ = _
 rw [List.take_of_length_le]
 rw [List.length_drop]
 omega
theorem app_list (a y : Str) : (a ++ y).cps.toList = a.cps.toList ++ y.cps.toList := by rw [Str.cps_append, Array.toList_append]
theorem mem_lets {c : Nat} : c ∈ Ws.lets.cps.toList ↔ 97 ≤ c ∧ c ≤ 122 := by
 rw [show Ws.lets.cps.toList = List.range' 97 26 by decide +kernel, List.mem_range'_1]
 omega
theorem let_at {i : Int} (h0 : 0 ≤ i) (h1 : i < 26) : atI (Str.ofString "abcdefghijklmnopqrstuvwxyz").cps.toList i = some (97 + i.toNat) := by
 have h : ∀ k : Nat, k < 26 → atI (Str.ofString "abcdefghijklmnopqrstuvwxyz").cps.toList (k : Int) = some (97 + (k : Int).toNat) := by decide +kernel
 have e := h i.toNat (by omega)
 rw [Int.toNat_of_nonneg h0] at e
 exact e
noncomputable def nmL (way : Int) (b : List Nat) (a k : Nat) : List Nat :=
 if way = 0 then b.take a ++ [97 + k / 26, 97 + k % 26] ++ b.drop a else if way = 1 then [97 + k / 26, 97 + k % 26] ++ b.take (k % (b.length + 1)) else if k < 26 then [97 + k % 26] else [97 + k / 26, 97 + k % 26]
theorem isW_of {x : Str} (h1 : 1 ≤ x.cps.toList.length) (h2 : x.cps.toList.length ≤ 8) (h : ∀ c ∈ x.cps.toList, 97 ≤ c ∧ c ≤ 122) : Ws.isW x = true := by
 rw [Ws.len_is] at h1 h2
 unfold Ws.isW Ws.among
 rw [decide_eq_true ⟨h1, h2⟩, Bool.true_and]
 exact decide_eq_true fun c hc => mem_lets.mpr (h c hc)
end Rm
namespace Rm
open PySem PySem.NumText PyProof.Rows L2
end Rm
namespace Rm
open PySem PySem.NumText PyProof.Rows L2
theorem nm_snoc {way : Int} {b : List Nat} {a i : Nat} {ws : List Str} {x : Str} (hw : ws.length = i) (h : ∀ j, j < i → (ws[j]?).map (·.cps.toList) = some (nmL way b a j)) (hx : x.cps.toList = nmL way b a i) :
  ∀ j, j < i + 1 → ((ws ++ [x])[j]?).map (·.cps.toList) = some (nmL way b a j) := fun j hj => by
 by_cases e : j < i
 ·rw [List.getElem?_append_left (by omega)]
  exact h j e
 ·have e2 : j = i := by omega
  subst e2
  rw [List.getElem?_append_right (by omega), hw, Nat.sub_self]
  exact congrArg some hx
end Rm
namespace Rm
open PySem L2
theorem none_of {H H' : Hp} {p : Addr} (s : Same H H') (h : H' p = none) : H p = none := by
 cases e : H p with
 | none => rfl
 | some u => rw [s _ _ e] at h; cases h
end Rm
namespace Rm
open PySem L2
inductive Fm where
 | hold (n : Int) | ring (x : Str) (n : Int) | rise (x : Str) (h n : Int) | row (ps : List Str) | side (ps : List Str) | again (k : Int) (x : Str)
structure Rr where
 names : List Str
 limbs : List (Str × Int)
 parts : List (Str × Fm)
 hands : List (List Int)
 longs : List Int
noncomputable def FormAt (H : Hp) (a : Addr) : Fm → Prop
 | .hold n => H a = some (.tup [.str "hold", .int n])
 | .ring x n => H a = some (.tup [.str "ring", .str x, .int n])
 | .rise x h n => H a = some (.tup [.str "raise", .str x, .int h, .int n])
 | .row ps => ∃ b, H a = some (.tup [.str "row", .ref b]) ∧ H b = some (.tup (ps.map V.str))
 | .side ps => ∃ b, H a = some (.tup [.str "side", .ref b]) ∧ H b = some (.tup (ps.map V.str))
 | .again k x => H a = some (.tup [.str "again", .int k, .str x])
noncomputable def PartAt (H : Hp) (a : Addr) (p : Str × Fm) : Prop := ∃ b, H a = some (.tup [.str p.1, .ref b]) ∧ FormAt H b p.2
noncomputable def LimbAt (H : Hp) (a : Addr) (p : Str × Int) : Prop := H a = some (.tup [.str p.1, .int p.2])
noncomputable def All2 {α : Type} (R : Addr → α → Prop) (as : List Addr) (xs : List α) : Prop := as.length = xs.length ∧ ∀ (i : Nat) (a : Addr) (x : α), as[i]? = some a → xs[i]? = some x → R a x
theorem All2.nil {α : Type} {R : Addr → α → Prop} : All2 R [] [] := ⟨rfl, fun i a x h => by simp at h⟩
theorem All2.mono {α : Type} {R S : Addr → α → Prop} {as : List Addr} {xs : List α} (h : All2 R as xs) (k : ∀ a x, R a x → S a x) : All2 S as xs := ⟨h.1, fun i a x h1 h2 => k a x (h.2 i a x h1 h2)⟩
theorem All2.snoc {α : Type} {R : Addr → α → Prop} {as : List Addr} {xs : List α} {a : Addr} {x : α} (h : All2 R as xs) (hx : R a x) : All2 R (as ++ [a]) (xs ++ [x]) := by
 have hl := h.1
 refine ⟨by simp [hl], fun i b y h1 h2 => ?_⟩
 by_cases hi : i < as.length
 ·rw [List.getElem?_append_left hi] at h1
  rw [List.getElem?_append_left (by omega)] at h2
  exact h.2 i b y h1 h2
 ·rw [List.getElem?_append_right (by omega)] at h1
  rw [List.getElem?_append_right (by omega)] at h2
  have e : i - as.length = 0 := by
   have := (List.getElem?_eq_some_iff.mp h1).1
   simp at this
   omega
  rw [e] at h1
  rw [show i - xs.length = 0 by omega] at h2
  simp at h1 h2
  subst h1 h2
  exact hx
theorem All2.get {α : Type} {R : Addr → α → Prop} {as : List Addr} {xs : List α} {i : Nat} {x : α} (h : All2 R as xs) (hx : xs[i]? = some x) : ∃ a, as[i]? = some a ∧ R a x := by
 have hi := (List.getElem?_eq_some_iff.mp hx).1
 have hl := h.1
 have ha : as[i]? = some as[i] := List.getElem?_eq_getElem (by omega)
 exact ⟨_, ha, h.2 i _ _ ha hx⟩
structure Ra where
 r : Addr
 pn : Addr
 pl : Addr
 pp : Addr
 ph : Addr
 pg : Addr
noncomputable def Ra.off (z : Ra) (a : Addr) : Prop := a ≠ z.pp ∧ a ≠ z.ph ∧ a ≠ z.pg
noncomputable def HandAt (z : Ra) (H : Hp) (a : Addr) (ks : List Int) : Prop := H a = some (.lst (ks.map V.int)) ∧ z.off a
structure RoomAt (H : Hp) (z : Ra) (m : Rr) : Prop where
 d : H z.r = some (.dK [(Sum.inr "names", .ref z.pn), (Sum.inr "limbs", .ref z.pl), (Sum.inr "parts", .ref z.pp), (Sum.inr "hands", .ref z.ph), (Sum.inr "long", .ref z.pg)])
 n : H z.pn = some (.lst (m.names.map V.str))
 l : ∃ ls, H z.pl = some (.lst (ls.map V.ref)) ∧ All2 (LimbAt H) ls m.limbs
 p : ∃ qs, H z.pp = some (.lst (qs.map V.ref)) ∧ All2 (PartAt H) qs m.parts
 h : ∃ hs, H z.ph = some (.lst (hs.map V.ref)) ∧ All2 (HandAt z H) hs m.hands
 g : H z.pg = some (.lst (m.longs.map V.int))
 on : z.off z.pn
 ol : z.off z.pl
 ph : z.pp ≠ z.ph
 pg : z.pp ≠ z.pg
 hg : z.ph ≠ z.pg
noncomputable def Kp (z : Ra) (H H' : Hp) : Prop := ∀ b u, z.off b → H b = some u → H' b = some u
theorem Kp.refl (z : Ra) (H : Hp) : Kp z H H := fun _ _ _ h => h
theorem Kp.trans {z : Ra} {H H1 H2 : Hp} (a : Kp z H H1) (b : Kp z H1 H2) : Kp z H H2 := fun c u o h => b c u o (a c u o h)
theorem Kp.of {z : Ra} {H H' : Hp} (s : Same H H') : Kp z H H' := fun b u _ h => s b u h
section
variable {H H' : Hp} {z : Ra} {m : Rr}
theorem off_tup (R : RoomAt H z m) {a : Addr} {xs : List V} (h : H a = some (.tup xs)) : z.off a := by
 obtain ⟨qs, e1, _⟩ := R.p
 obtain ⟨hs, e2, _⟩ := R.h
 exact ⟨ne_of h e1 (fun z => by cases z), ne_of h e2 (fun z => by cases z), ne_of h R.g (fun z => by cases z)⟩
theorem FormAt.kp {a : Addr} {f : Fm} (R : RoomAt H z m) (k : Kp z H H') (h : FormAt H a f) : FormAt H' a f := by
 cases f with
 | row ps => obtain ⟨b, h1, h2⟩ := h; exact ⟨b, k _ _ (off_tup R h1) h1, k _ _ (off_tup R h2) h2⟩
 | side ps => obtain ⟨b, h1, h2⟩ := h; exact ⟨b, k _ _ (off_tup R h1) h1, k _ _ (off_tup R h2) h2⟩
 | hold n => exact k _ _ (off_tup R h) h
 | ring x n => exact k _ _ (off_tup R h) h
 | rise x g n => exact k _ _ (off_tup R h) h
 | again x n => exact k _ _ (off_tup R h) h
theorem PartAt.kp {a : Addr} {p : Str × Fm} (R : RoomAt H z m) (k : Kp z H H') (h : PartAt H a p) : PartAt H' a p := by
 obtain ⟨b, h1, h2⟩ := h
 exact ⟨b, k _ _ (off_tup R h1) h1, FormAt.kp R k h2⟩
theorem RoomAt.keeps (R : RoomAt H z m) (s : Same H H') : RoomAt H' z m := by
 have k : Kp z H H' := Kp.of s
 obtain ⟨ls, e1, a1⟩ := R.l
 obtain ⟨qs, e2, a2⟩ := R.p
 obtain ⟨hs, e3, a3⟩ := R.h
 exact ⟨s _ _ R.d, s _ _ R.n, ⟨ls, s _ _ e1, a1.mono fun a x h => s _ _ h⟩, ⟨qs, s _ _ e2, a2.mono fun a x h => PartAt.kp R k h⟩, ⟨hs, s _ _ e3, a3.mono fun a x h => ⟨s _ _ h.1, h.2⟩⟩, s _ _ R.g, R.on, R.ol, R.ph, R.pg, R.hg⟩
end
end Rm
namespace Rm
open PySem L2
end Rm
namespace Rm
open PySem L2
noncomputable def Rr.nm (m : Rr) (j : Nat) : Str := m.names.getD j ⟨#[]⟩
noncomputable def Rr.hd (m : Rr) (j : Nat) : List Int := m.hands.getD j []
noncomputable def Rr.lg (m : Rr) (j : Nat) : Int := m.longs.getD j 0
noncomputable def Idx (m : Rr) (i : Nat) (is : List Nat) (ps : List Str) : Prop := ps = is.map m.nm ∧ ∀ j ∈ is, j < i
noncomputable def KsOf (m : Rr) (is : List Nat) (ks : List Int) : Prop := ∀ k, k ∈ ks ↔ ∃ j ∈ is, k ∈ m.hd j
noncomputable def Apart (m : Rr) (is : List Nat) : Prop := (∀ j ∈ is, m.hd j ≠ []) ∧ is.Pairwise fun a b => ∀ k ∈ m.hd a, ¬ k ∈ m.hd b
noncomputable def FmOk (m : Rr) (i : Nat) : Fm → List Int → Int → Prop
 | .hold n, ks, g => 1 ≤ n ∧ n ≤ 10 ^ 18 ∧ ks = [] ∧ g = n
 | .ring x n, ks, g => x ∈ m.names ∧ 1 ≤ n ∧ n ≤ 10 ^ 18 ∧ ks = [] ∧ g = n
 | .rise x h n, ks, g => (∃ (j : Nat) (v : Int), m.limbs[j]? = some (x, v) ∧ ks = [(j : Int)]) ∧ 0 ≤ h ∧ h ≤ 10 ^ 18 ∧ 1 ≤ n ∧ n ≤ 10 ^ 18 ∧ g = n
 | .row ps, ks, g => ∃ is, Idx m i is ps ∧ 1 ≤ is.length ∧ is.length ≤ 8 ∧ KsOf m is ks ∧ g = (is.map m.lg).sum
 | .side ps, ks, g => ∃ is, Idx m i is ps ∧ 2 ≤ is.length ∧ is.length ≤ 4 ∧ Apart m is ∧ KsOf m is ks ∧ (∃ j ∈ is, g = m.lg j) ∧ ∀ j ∈ is, m.lg j ≤ g
 | .again k x, ks, g => 1 ≤ k ∧ k ≤ 10 ^ 18 ∧ ∃ j, j < i ∧ x = m.nm j ∧ ks = m.hd j ∧ g = k * m.lg j
structure PartOk (m : Rr) (i : Nat) (f : Fm) (ks : List Int) (g : Int) : Prop where
 f : FmOk m i f ks g
 k : ∀ k ∈ ks, 0 ≤ k ∧ k < (m.limbs.length : Int)
 o : ks.Pairwise (· < ·)
 g1 : 1 ≤ g
 g2 : g ≤ 10 ^ 60
structure Good (m : Rr) : Prop where
 nl : m.names.length = 68
 nd : m.names.Nodup
 nw : ∀ x ∈ m.names, Ws.isW x = true
 l1 : 1 ≤ m.limbs.length
 l8 : m.limbs.length ≤ 8
 ln : (m.limbs.map (·.1)).Nodup
 lm : ∀ p ∈ m.limbs, p.1 ∈ m.names ∧ 0 ≤ p.2 ∧ p.2 ≤ 10 ^ 18
 hl : m.hands.length = m.parts.length
 gl : m.longs.length = m.parts.length
 ps : ∀ i p, m.parts[i]? = some p → p.1 = m.nm i ∧ PartOk m i p.2 (m.hd i) (m.lg i)
section
variable {m : Rr} {f : Fm} {ks : List Int} {g : Int}
theorem getD_snoc {α : Type} {l : List α} {x d : α} {j : Nat} (h : j < l.length) : (l ++ [x]).getD j d = l.getD j d := by
 rw [List.getD_eq_getElem?_getD, List.getD_eq_getElem?_getD, List.getElem?_append_left h]
end
noncomputable def Big (ns : List Int) : Prop := ∀ n ∈ ns, 0 ≤ n ∧ n < 33554432
theorem Big.cell {ns : List Int} (h : Big ns) {k : Int} (h0 : 0 ≤ k) (h1 : k < (ns.length : Int)) : 0 ≤ Pr.cell ns k ∧ Pr.cell ns k < 33554432 := h _ (List.mem_of_getElem? (Pr.get_cell h0 h1))
theorem at_refI {as : List Addr} {i : Int} {a : Addr} (h0 : 0 ≤ i) (h : as[i.toNat]? = some a) : atI (as.map V.ref) i = some (.ref a) := by
 have e : atI (as.map V.ref) ((i.toNat : Nat) : Int) = some (.ref a) := atI_nat (by rw [List.getElem?_map, h]; rfl)
 rw [Int.toNat_of_nonneg h0] at e
 exact e
end Rm
namespace Rm
open PySem PySem.Spec PyProof.Rows L2
theorem int_nat {k : Nat} {H : Hp} {Q : VK} (q : ∀ i : Nat, i < k → Q (.int i) H) {x : Int} (h0 : 0 ≤ x) (h1 : x < k) : Q (.int x) H := by
 have e := q x.toNat (by omega)
 rw [Int.toNat_of_nonneg h0] at e
 exact e
theorem len_of_lt : ∀ {ks : List Int} {lo hi : Int}, ks.Pairwise (· < ·) → (∀ k ∈ ks, lo ≤ k ∧ k < hi) → ks.length ≤ (hi - lo).toNat
 | [], _, _, _, _ => Nat.zero_le _
 | k :: r, lo, hi, h, b => by
  have h1 := len_of_lt (ks := r) (lo := k + 1) (hi := hi) (List.pairwise_cons.mp h).2 fun x hx => ⟨(List.pairwise_cons.mp h).1 x hx, (b x (List.mem_cons_of_mem _ hx)).2⟩
  have h2 := b k List.mem_cons_self
  rw [List.length_cons]
  omega
theorem dv_ints {H : Hp} : ∀ (ks : List Int), DVs H (ks.map V.int) (ks.map PyData.int)
 | [] => .nil
 | k :: r => .cons (.int k) (dv_ints r)
theorem Apart.snoc {m : Rr} {is : List Nat} {j : Nat} {hs : List Int} (h : Apart m is) (hh : ∀ i ∈ is, ∀ k ∈ m.hd i, k ∈ hs) (h1 : m.hd j ≠ []) (h2 : ∀ k ∈ m.hd j, ¬ k ∈ hs) : Apart m (is ++ [j]) := by
 refine ⟨fun i hi => ?_, List.pairwise_append.mpr ⟨h.2, List.pairwise_singleton _ _, fun a ha b hb k hk hk' => ?_⟩⟩
 ·rcases List.mem_append.mp hi with e | e
  ·exact h.1 i e
  ·have e' : i = j := by simpa using e
   rw [e']; exact h1
 ·have e : b = j := by simpa using hb
  subst e
  exact h2 k hk' (hh a ha k hk)
end Rm
namespace Rm
open PySem PySem.Spec PyProof.Rows L2
theorem in_ints (n : Int) : ∀ hs : List Int, inV (.int n) (hs.map V.int) = decide (n ∈ hs)
 | [] => rfl
 | h :: r => by
  have ih := in_ints n r
  unfold inV at ih ⊢
  rw [List.map_cons, List.any_cons, ih]
  have e : eqV (.int h) (.int n) = decide (h = n) := by
   show decide _ = _
   simp
  rw [e, Bool.eq_iff_iff]
  simp only [Bool.or_eq_true, decide_eq_true_eq, List.mem_cons]
  constructor
  ·rintro (x | x)
   ·exact .inl x.symm
   ·exact .inr x
  ·rintro (x | x)
   ·exact .inl x.symm
   ·exact .inr x
theorem inI (n : Int) (hs : List Int) : (if false = true then !inV (.int n) (hs.map V.int) else inV (.int n) (hs.map V.int)) = decide (n ∈ hs) := by rw [if_neg (by decide), in_ints]
theorem flats : ∀ hs : List Int, (hs.map V.int).all flatV = true
 | [] => rfl
 | h :: r => by rw [List.map_cons, List.all_cons, flats r]; rfl
theorem take_snoc {α : Type} {l : List α} {i : Nat} {x : α} (h : l[i]? = some x) : l.take (i + 1) = l.take i ++ [x] := by
 rw [List.take_add_one, h]
 rfl
end Rm
namespace Rm
open PySem PySem.Spec PyProof.Rows L2
end Rm
namespace Rm
open PySem PySem.Spec PyProof.Rows L2
end Rm
namespace Rm
open PySem PySem.Spec PyProof.Rows L2
end Rm
namespace Rm
open PySem PySem.Spec PyProof.Rows L2
theorem sorted_lt {ms hs : List Int} (hp : ms.Perm hs) (nd : hs.Nodup) (ho : ms.Pairwise (· ≤ ·)) : ms.Pairwise (· < ·) :=
 (List.Pairwise.and ho (hp.nodup_iff.mpr nd)).imp fun {a b} h => by have h1 := h.1; have h2 : a ≠ b := h.2; omega
end Rm
namespace Rm
open PySem PySem.Spec PyProof.Rows L2
noncomputable def Shp (n : Nat) (d : PyData) : Prop := d.canLay0 = true ∧ d.depth ≤ n
theorem Shp.int {i : Int} : Shp 0 (.int i) := ⟨rfl, Nat.le_refl _⟩
theorem Shp.str {x : Str} (h : PyData.strOk x = true) : Shp 0 (.str x) := ⟨h, Nat.le_refl _⟩
theorem Shp.mono {n k : Nat} {d : PyData} (h : Shp n d) (hk : n ≤ k) : Shp k d := ⟨h.1, Nat.le_trans h.2 hk⟩
theorem shp_all {n : Nat} : ∀ {ds : List PyData}, (∀ d ∈ ds, Shp n d) → PyData.canLayAll0 ds = true ∧ PyData.depthAll ds ≤ n
 | [], _ => ⟨rfl, Nat.zero_le _⟩
 | d :: r, h => by
  have h1 := h d List.mem_cons_self
  have h2 := shp_all (ds := r) fun x hx => h x (List.mem_cons_of_mem _ hx)
  constructor
  ·show (d.canLay0 && PyData.canLayAll0 r) = true
   rw [h1.1, h2.1]; rfl
  ·show max d.depth (PyData.depthAll r) ≤ n
   exact Nat.max_le.mpr ⟨h1.2, h2.2⟩
theorem Shp.lst {n : Nat} {ds : List PyData} (h : ∀ d ∈ ds, Shp n d) : Shp (n + 1) (.list ds) := ⟨(shp_all h).1, Nat.succ_le_succ (shp_all h).2⟩
theorem Shp.tup {n : Nat} {ds : List PyData} (h : ∀ d ∈ ds, Shp n d) : Shp (n + 1) (.tuple ds) := ⟨(shp_all h).1, Nat.succ_le_succ (shp_all h).2⟩
theorem Shp.ok {n : Nat} {d : PyData} (h : Shp n d) (hn : n ≤ 64) : SeqAt.shaped d = true := by
 unfold SeqAt.shaped
 rw [h.1, Bool.true_and]
 exact decide_eq_true (Nat.le_trans h.2 hn)
theorem strOk_W {x : Str} (h : Ws.isW x = true) : PyData.strOk x = true := by
 unfold Ws.isW Ws.among at h
 rw [Bool.and_eq_true] at h
 have h2 := of_decide_eq_true h.2
 unfold PyData.strOk
 rw [Array.all_eq_true_iff_forall_mem]
 intro c hc
 have := mem_lets.mp (h2 c (by simpa using hc))
 exact decide_eq_true (by omega)
noncomputable def fmD : Fm → PyData
 | .hold n => .tuple [.str "hold", .int n]
 | .ring x n => .tuple [.str "ring", .str x, .int n]
 | .rise x h n => .tuple [.str "raise", .str x, .int h, .int n]
 | .row ps => .tuple [.str "row", .tuple (ps.map PyData.str)]
 | .side ps => .tuple [.str "side", .tuple (ps.map PyData.str)]
 | .again k x => .tuple [.str "again", .int k, .str x]
noncomputable def partD (p : Str × Fm) : PyData := .tuple [.str p.1, fmD p.2]
noncomputable def limbD (p : Str × Int) : PyData := .tuple [.str p.1, .int p.2]
theorem dv_strs {H : Hp} : ∀ (xs : List Str), DVs H (xs.map V.str) (xs.map PyData.str)
 | [] => .nil
 | x :: r => .cons (.str x) (dv_strs r)
theorem dv_form {H : Hp} {a : Addr} {f : Fm} (h : FormAt H a f) : DV H (.ref a) (fmD f) := by
 cases f with
 | hold n => exact .tup h (.cons (.str _) (.cons (.int _) .nil))
 | ring x n => exact .tup h (.cons (.str _) (.cons (.str _) (.cons (.int _) .nil)))
 | rise x v n => exact .tup h (.cons (.str _) (.cons (.str _) (.cons (.int _) (.cons (.int _) .nil))))
 | row ps => obtain ⟨b, h1, h2⟩ := h; exact .tup h1 (.cons (.str _) (.cons (.tup h2 (dv_strs ps)) .nil))
 | side ps => obtain ⟨b, h1, h2⟩ := h; exact .tup h1 (.cons (.str _) (.cons (.tup h2 (dv_strs ps)) .nil))
 | again k x => exact .tup h (.cons (.str _) (.cons (.int _) (.cons (.str _) .nil)))
theorem dv_part {H : Hp} {a : Addr} {p : Str × Fm} (h : PartAt H a p) : DV H (.ref a) (partD p) := by
 obtain ⟨b, h1, h2⟩ := h
 exact .tup h1 (.cons (.str _) (.cons (dv_form h2) .nil))
theorem dv_limb {H : Hp} {a : Addr} {p : Str × Int} (h : LimbAt H a p) : DV H (.ref a) (limbD p) := .tup h (.cons (.str _) (.cons (.int _) .nil))
theorem All2.tail {α : Type} {R : Addr → α → Prop} {a : Addr} {x : α} {as : List Addr} {xs : List α} (h : All2 R (a :: as) (x :: xs)) : R a x ∧ All2 R as xs :=
 ⟨h.2 0 a x rfl rfl, Nat.succ.inj h.1, fun i b y h1 h2 => h.2 (i + 1) b y (by simpa using h1) (by simpa using h2)⟩
theorem dvs_refs {α : Type} {H : Hp} {R : Addr → α → Prop} {D : α → PyData} (k : ∀ a x, R a x → DV H (.ref a) (D x)) : ∀ {as : List Addr} {xs : List α}, All2 R as xs → DVs H (as.map V.ref) (xs.map D)
 | [], [], _ => .nil
 | [], _ :: _, h => by have := h.1; simp at this
 | _ :: _, [], h => by have := h.1; simp at this
 | _ :: _, _ :: _, h => .cons (k _ _ h.tail.1) (dvs_refs k h.tail.2)
noncomputable def FmWs : Fm → Prop
 | .hold n => 0 ≤ n ∧ n ≤ 10 ^ 18
 | .ring x n => Ws.isW x = true ∧ 0 ≤ n ∧ n ≤ 10 ^ 18
 | .rise x h n => Ws.isW x = true ∧ 0 ≤ h ∧ h ≤ 10 ^ 18 ∧ 0 ≤ n ∧ n ≤ 10 ^ 18
 | .row ps => ps.length ≤ 8 ∧ ∀ x ∈ ps, Ws.isW x = true
 | .side ps => ps.length ≤ 8 ∧ ∀ x ∈ ps, Ws.isW x = true
 | .again k x => 0 ≤ k ∧ k ≤ 10 ^ 18 ∧ Ws.isW x = true
structure BkOk (ls : List (Str × Int)) (ps : List (Str × Fm)) : Prop where
 l8 : ls.length ≤ 8
 ln : ∀ p ∈ ls, Ws.isW p.1 = true ∧ 0 ≤ p.2 ∧ p.2 ≤ 10 ^ 18
 p61 : ps.length ≤ 61
 pn : ∀ p ∈ ps, Ws.isW p.1 = true ∧ FmWs p.2
theorem shp_strs {n : Nat} {xs : List Str} (h : ∀ x ∈ xs, Ws.isW x = true) : ∀ d ∈ xs.map PyData.str, Shp n d := fun d hd => by
 obtain ⟨x, hx, rfl⟩ := List.mem_map.mp hd
 exact (Shp.str (strOk_W (h x hx))).mono (Nat.zero_le _)
theorem shp_form {f : Fm} (h : FmWs f) : Shp 2 (fmD f) := by
 cases f with
 | hold n => exact (Shp.tup (n := 0) (by rintro d hd; simp only [List.mem_cons, List.not_mem_nil, or_false] at hd; rcases hd with rfl | rfl; exact Shp.str (by decide +kernel); exact Shp.int)).mono (by decide)
 | ring x n => exact (Shp.tup (n := 0) (by rintro d hd; simp only [List.mem_cons, List.not_mem_nil, or_false] at hd; rcases hd with rfl | rfl | rfl; exact Shp.str (by decide +kernel); exact Shp.str (strOk_W h.1); exact Shp.int)).mono (by decide)
 | rise x v n => exact (Shp.tup (n := 0) (by rintro d hd; simp only [List.mem_cons, List.not_mem_nil, or_false] at hd; rcases hd with rfl | rfl | rfl | rfl; exact Shp.str (by decide +kernel); exact Shp.str (strOk_W h.1); exact Shp.int; exact Shp.int)).mono (by decide)
 | row ps => exact Shp.tup (n := 1) (by rintro d hd; simp only [List.mem_cons, List.not_mem_nil, or_false] at hd; rcases hd with rfl | rfl; exact (Shp.str (by decide +kernel)).mono (by decide); exact Shp.tup (shp_strs h.2))
 | side ps => exact Shp.tup (n := 1) (by rintro d hd; simp only [List.mem_cons, List.not_mem_nil, or_false] at hd; rcases hd with rfl | rfl; exact (Shp.str (by decide +kernel)).mono (by decide); exact Shp.tup (shp_strs h.2))
 | again k x => exact (Shp.tup (n := 0) (by rintro d hd; simp only [List.mem_cons, List.not_mem_nil, or_false] at hd; rcases hd with rfl | rfl | rfl; exact Shp.str (by decide +kernel); exact Shp.int; exact Shp.str (strOk_W h.2.2))).mono (by decide)
theorem shp_parts {ls : List (Str × Int)} {ps : List (Str × Fm)} (B : BkOk ls ps) : Shp 4 (.list (ps.map partD)) := by
 refine Shp.lst fun d hd => ?_
 obtain ⟨p, hp, rfl⟩ := List.mem_map.mp hd
 refine Shp.tup fun d hd => ?_
 simp only [List.mem_cons, List.not_mem_nil, or_false] at hd
 rcases hd with rfl | rfl
 ·exact (Shp.str (strOk_W (B.pn p hp).1)).mono (by decide)
 ·exact shp_form (B.pn p hp).2
theorem shp_limbs {ls : List (Str × Int)} {ps : List (Str × Fm)} (B : BkOk ls ps) : Shp 4 (.list (ls.map limbD)) := by
 refine Shp.mono (n := 2) (Shp.lst fun d hd => ?_) (by decide)
 obtain ⟨p, hp, rfl⟩ := List.mem_map.mp hd
 refine Shp.tup fun d hd => ?_
 simp only [List.mem_cons, List.not_mem_nil, or_false] at hd
 rcases hd with rfl | rfl
 ·exact Shp.str (strOk_W (B.ln p hp).1)
 ·exact Shp.int
noncomputable def bookD (ls : List (Str × Int)) (ps : List (Str × Fm)) : PyData := .tuple [.list (ls.map limbD), .list (ps.map partD)]
theorem shp_book {ls : List (Str × Int)} {ps : List (Str × Fm)} (B : BkOk ls ps) : Shp 5 (bookD ls ps) := by
 refine Shp.tup fun d hd => ?_
 simp only [List.mem_cons, List.not_mem_nil, or_false] at hd
 rcases hd with rfl | rfl
 ·exact shp_limbs B
 ·exact shp_parts B
structure BookAt (H : Hp) (b pl pp : Addr) (las pas : List Addr) (ls : List (Str × Int)) (ps : List (Str × Fm)) : Prop where
 t : H b = some (.tup [.ref pl, .ref pp])
 l : H pl = some (.lst (las.map V.ref))
 la : All2 (LimbAt H) las ls
 p : H pp = some (.lst (pas.map V.ref))
 pa : All2 (PartAt H) pas ps
theorem FormAt.same {H H' : Hp} {a : Addr} {f : Fm} (s : Same H H') (h : FormAt H a f) : FormAt H' a f := by
 cases f with
 | row ps => obtain ⟨b, h1, h2⟩ := h; exact ⟨b, s _ _ h1, s _ _ h2⟩
 | side ps => obtain ⟨b, h1, h2⟩ := h; exact ⟨b, s _ _ h1, s _ _ h2⟩
 | hold n => exact s _ _ h
 | ring x n => exact s _ _ h
 | rise x g n => exact s _ _ h
 | again x n => exact s _ _ h
theorem PartAt.same {H H' : Hp} {a : Addr} {p : Str × Fm} (s : Same H H') (h : PartAt H a p) : PartAt H' a p := by
 obtain ⟨b, h1, h2⟩ := h
 exact ⟨b, s _ _ h1, FormAt.same s h2⟩
theorem BookAt.same {H H' : Hp} {b pl pp : Addr} {las pas : List Addr} {ls : List (Str × Int)} {ps : List (Str × Fm)} (B : BookAt H b pl pp las pas ls ps) (s : Same H H') : BookAt H' b pl pp las pas ls ps :=
 ⟨s _ _ B.t, s _ _ B.l, B.la.mono fun a x h => s _ _ h, s _ _ B.p, B.pa.mono fun a x h => PartAt.same s h⟩
theorem BookAt.dv {H : Hp} {b pl pp : Addr} {las pas : List Addr} {ls : List (Str × Int)} {ps : List (Str × Fm)} (B : BookAt H b pl pp las pas ls ps) : DV H (.ref b) (bookD ls ps) :=
 .tup B.t (.cons (.lst B.l (dvs_refs (fun _ _ h => dv_limb h) B.la)) (.cons (.lst B.p (dvs_refs (fun _ _ h => dv_part h) B.pa)) .nil))
theorem eqv_book {ls : List (Str × Int)} {ps : List (Str × Fm)} (B : BkOk ls ps) : PyData.eqv (bookD ls ps) (bookD ls ps) = true := SeqAt.eqv_refl _ (shp_book B).1
end Rm
namespace Rm
open PySem PySem.Spec PyProof.Rows L2
noncomputable def tI (n : Int) : Str := Str.ofString (toString n)
noncomputable def bl : Str := " "
end Rm
namespace Rm
open PySem PySem.Spec PyProof.Rows L2
end Rm
namespace Rm
open PySem PySem.Spec PyProof.Rows L2
end Rm
namespace Rm
open PySem PySem.Spec PyProof.Rows L2
open PyProof.Rows.KTD (inKeys Dat)
noncomputable def TxV (v : V) (w : Str) : Prop := v = .str w ∨ ∃ n : Int, v = .int n ∧ 0 ≤ n ∧ n ≤ 10 ^ 18 ∧ w = tI n
structure FmIt (H : Hp) (a : Addr) (k : Str) (xs : List V) (out : Nat → List Str) (ws : List Str) : Prop where
 t : H a = some (.tup (.str k :: xs))
 o0 : out 0 = []
 e : k :: out xs.length = ws
 l : ∀ i, i ≤ xs.length → (out i).length ≤ 9
 s : ∀ i x, xs[i]? = some x → (∃ b ps, x = .ref b ∧ H b = some (.tup (ps.map V.str)) ∧ out (i + 1) = out i ++ ps) ∨ ∃ w, TxV x w ∧ out (i + 1) = out i ++ [w]
inductive Tx : List V → List Str → Prop
 | nil : Tx [] []
 | cons {v : V} {w : Str} {vs : List V} {ws : List Str} : TxV v w → Tx vs ws → Tx (v :: vs) (w :: ws)
theorem Tx.len {vs : List V} {ws : List Str} (h : Tx vs ws) : vs.length = ws.length := by
 induction h with
 | nil => rfl
 | cons _ _ ih => rw [List.length_cons, List.length_cons, ih]
theorem Tx.get {vs : List V} {ws : List Str} (h : Tx vs ws) : ∀ {i : Nat} {v : V}, vs[i]? = some v → ∃ w, ws[i]? = some w ∧ TxV v w := by
 induction h with
 | nil => intro i v e; simp at e
 | cons hv _ ih =>
  intro i v e
  cases i with
  | zero => simp at e; subst e; exact ⟨_, rfl, hv⟩
  | succ i => simp at e; obtain ⟨w, h1, h2⟩ := ih e; exact ⟨w, by simpa using h1, h2⟩
theorem at0 {x : V} {xs : List V} : atI (x :: xs) 0 = some x := atI_nat (j := 0) rfl
theorem iteB0 {b : Bool} {A B : Prop} (e : b = false) (h : B) : if b = true then A else B := by rw [e]; exact h
theorem iteB1 {b : Bool} {A B : Prop} (e : b = true) (h : A) : if b = true then A else B := by rw [e]; exact h
theorem All2.at_ref {α : Type} {R : Addr → α → Prop} {as : List Addr} {xs : List α} {i : Nat} {v : V} (h : All2 R as xs) (hv : (as.map V.ref)[i]? = some v) : ∃ a x, v = .ref a ∧ xs[i]? = some x ∧ R a x := by
 rw [List.getElem?_map] at hv
 obtain ⟨a, ha, rfl⟩ := Option.map_eq_some_iff.mp hv
 have hi := (List.getElem?_eq_some_iff.mp ha).1
 have hl := h.1
 have hx : xs[i]? = some xs[i] := List.getElem?_eq_getElem (by omega)
 exact ⟨a, _, rfl, hx, h.2 i a _ ha hx⟩
end Rm
namespace Rm
open PySem PySem.Spec PyProof.Rows L2
end Rm
namespace Rm
theorem nodup_len : ∀ {n : Nat} {hs : List Int}, hs.Nodup → (∀ k ∈ hs, 0 ≤ k ∧ k < (n : Int)) → hs.length ≤ n
 | 0, hs, _, h => by
  cases hs with
  | nil => exact Nat.le_refl _
  | cons k r => have := h k List.mem_cons_self; omega
 | n + 1, hs, nd, h => by
  by_cases e : (n : Int) ∈ hs
  ·have i := nodup_len (n := n) (nd.erase (n : Int)) fun k hk => by
    have h1 := h k (List.mem_of_mem_erase hk)
    have h2 : k ≠ (n : Int) := fun z => nd.not_mem_erase (z ▸ hk)
    omega
   have l := List.length_erase_of_mem e
   omega
  ·have i := nodup_len (n := n) nd fun k hk => by
    have h1 := h k hk
    have h2 : k ≠ (n : Int) := fun z => e (z ▸ hk)
    omega
   omega
end Rm
namespace Rm
open PySem PySem.Spec PyProof.Rows L2
noncomputable def Fm.ns : Fm → List Str
 | .row ps => ps
 | .side ps => ps
 | .again _ x => [x]
 | _ => []
noncomputable def numK (xs : List Str) : List (Key × V) := xs.zipIdx.map fun p => (Sum.inr p.1, .int (p.2 : Nat))
theorem numK_snoc (xs : List Str) (x : Str) : numK (xs ++ [x]) = numK xs ++ [(Sum.inr x, .int (xs.length : Nat))] := by
 unfold numK
 rw [List.zipIdx_append, List.map_append]
 simp
theorem numK_len (xs : List Str) : (numK xs).length = xs.length := by simp [numK]
theorem numK_keys (xs : List Str) : (numK xs).map (·.1) = xs.map Sum.inr := by
 unfold numK
 rw [List.map_map]
 have e : ∀ (k : Nat) (xs : List Str), (xs.zipIdx k).map ((fun x => x.1) ∘ fun p : Str × Nat => ((Sum.inr p.1 : Key), V.int (p.2 : Nat))) = xs.map Sum.inr := fun k xs => by
  induction xs generalizing k with
  | nil => rfl
  | cons x r ih => rw [List.zipIdx_cons, List.map_cons, List.map_cons, ih]; rfl
 exact e 0 xs
theorem numK_at {xs : List Str} {j : Nat} {x : Str} (h : xs[j]? = some x) : (numK xs)[j]? = some (Sum.inr x, .int (j : Nat)) := by
 unfold numK
 rw [List.getElem?_map, List.getElem?_zipIdx, h]
 simp
theorem val_at : ∀ {kvs : List (Key × V)} {j : Nat} {k : Key} {v : V}, (kvs.map (·.1)).Nodup → kvs[j]? = some (k, v) → valV kvs k = some v
 | [], j, k, v, _, h => by simp at h
 | p :: r, 0, k, v, _, h => by
  simp at h
  subst h
  unfold valV
  simp
 | p :: r, j + 1, k, v, nd, h => by
  rw [List.map_cons, List.nodup_cons] at nd
  have h' : r[j]? = some (k, v) := by simpa using h
  have ne : p.1 ≠ k := fun e => nd.1 (e ▸ List.mem_map.mpr ⟨(k, v), List.mem_of_getElem? h', rfl⟩)
  have ih := val_at nd.2 h'
  unfold valV at ih ⊢
  rw [List.find?_cons, decide_eq_false ne]
  exact ih
theorem numK_val {xs : List Str} (nd : xs.Nodup) {j : Nat} {x : Str} (h : xs[j]? = some x) : valV (numK xs) (Sum.inr x) = some (.int (j : Nat)) :=
 val_at (by rw [numK_keys]; exact List.pairwise_map.mpr (nd.imp fun h e => h (Sum.inr.inj e))) (numK_at h)
theorem putK_new {kvs : List (Key × V)} {k : Key} {v : V} (h : k ∉ kvs.map (·.1)) : putK kvs k v = kvs ++ [(k, v)] := by
 unfold putK
 rw [if_neg]
 intro e
 obtain ⟨p, hp, hk⟩ := List.any_eq_true.mp e
 exact h (List.mem_map.mpr ⟨p, hp, of_decide_eq_true hk⟩)
noncomputable def ixOf : List Str → Str → Nat
 | [], _ => 0
 | y :: r, x => if y = x then 0 else ixOf r x + 1
theorem ixOf_at : ∀ {xs : List Str} {j : Nat} {x : Str}, xs.Nodup → xs[j]? = some x → ixOf xs x = j
 | [], j, x, _, h => by simp at h
 | y :: r, 0, x, _, h => by
  simp at h
  subst h
  exact if_pos rfl
 | y :: r, j + 1, x, nd, h => by
  rw [List.nodup_cons] at nd
  have h' : r[j]? = some x := by simpa using h
  have ne : y ≠ x := fun e => nd.1 (e ▸ List.mem_of_getElem? h')
  show (if y = x then 0 else ixOf r x + 1) = j + 1
  rw [if_neg ne, ixOf_at nd.2 h']
noncomputable def nmsOf {α : Type} (ps : List (Str × α)) : List Str := ps.map (·.1)
noncomputable def inP (ps : List (Str × Fm)) (f : Fm) : List Nat := f.ns.map (ixOf (nmsOf ps))
structure WfB (ls : List (Str × Int)) (ps : List (Str × Fm)) : Prop where
 ln : (nmsOf ls).Nodup
 l8 : ls.length ≤ 8
 pn : (nmsOf ps).Nodup
 p61 : ps.length ≤ 61
 f : ∀ (i : Nat) (p : Str × Fm), ps[i]? = some p → (∀ x ∈ p.2.ns, ∃ j, j < i ∧ (nmsOf ps)[j]? = some x) ∧ p.2.ns.length ≤ 8
 r : ∀ (i : Nat) (y x : Str) (h n : Int), ps[i]? = some (y, .rise x h n) → ∃ j : Nat, (nmsOf ls)[j]? = some x
theorem WfB.inP_lt {ls : List (Str × Int)} {ps : List (Str × Fm)} (W : WfB ls ps) {i : Nat} {p : Str × Fm} (h : ps[i]? = some p) {j : Nat} (hj : j ∈ inP ps p.2) : j < i := by
 obtain ⟨x, hx, rfl⟩ := List.mem_map.mp hj
 obtain ⟨k, hk, e⟩ := (W.f i p h).1 x hx
 rw [ixOf_at W.pn e]
 exact hk
noncomputable def sp_numbers_of : Sp := fun vs H Q _ => ∃ (l : Addr) (as : List Addr) (xs : List Str), vs = [.ref l] ∧ H l = some (.lst (as.map V.ref)) ∧ as.length = xs.length ∧ (∀ (i : Nat) (a : Addr) (x : Str), as[i]? = some a → xs[i]? = some x → ∃ r, H a = some (.tup [.str x, r])) ∧
 xs.Nodup ∧ xs.length ≤ 100 ∧ ∀ (d : Addr) (H' : Hp), Same H H' → H d = none → H' d = some (.dK (numK xs)) → Q (.ref d) H'
noncomputable def sp_names_in : Sp := fun vs H Q _ => ∃ (a : Addr) (f : Fm), vs = [.ref a] ∧ FormAt H a f ∧ ∀ (b : Addr) (H' : Hp), Same H H' → H' b = some (.tup (f.ns.map V.str)) → Q (.ref b) H'
noncomputable def ListsAt (H : Hp) (as : List Addr) (M : List (List Int)) : Prop := All2 (fun a ks => H a = some (.lst (ks.map V.int))) as M
theorem All2.monoM {α : Type} {R S : Addr → α → Prop} {as : List Addr} {xs : List α} (h : All2 R as xs) (k : ∀ a ∈ as, ∀ x, R a x → S a x) : All2 S as xs := ⟨h.1, fun i a x h1 h2 => k a (List.mem_of_getElem? h1) x (h.2 i a x h1 h2)⟩
noncomputable def sp_inner : Sp := fun vs H Q _ => ∃ (b pl pp : Addr) (las pas : List Addr) (ls : List (Str × Int)) (ps : List (Str × Fm)), vs = [.ref b] ∧ BookAt H b pl pp las pas ls ps ∧ WfB ls ps ∧
 ∀ (l : Addr) (as : List Addr) (H' : Hp), Same H H' → H l = none → H' l = some (.lst (as.map V.ref)) → (∀ a ∈ as, H a = none) → ListsAt H' as (ps.map fun p => (inP ps p.2).map fun j : Nat => (j : Int)) → Q (.ref l) H'
noncomputable def PrsAt (H : Hp) (bs : List Addr) (e : List (Int × Int)) : Prop := All2 (fun b q => H b = some (.tup [.int q.1, .int q.2])) bs e
noncomputable def EndsAt (H : Hp) (as : List Addr) (E : List (List (Int × Int))) : Prop := All2 (fun a e => ∃ bs, H a = some (.lst (bs.map V.ref)) ∧ PrsAt H bs e) as E
noncomputable def LastIn (E : List (List (Int × Int))) (is : List Nat) (k v : Int) : Prop := ∃ pre j post, is = pre ++ j :: post ∧ (k, v) ∈ E.getD j [] ∧ ∀ j' ∈ post, ∀ v', (k, v') ∉ E.getD j' []
noncomputable def EndIs (ls : List (Str × Int)) (ps : List (Str × Fm)) (E : List (List (Int × Int))) (f : Fm) (k v : Int) : Prop := LastIn E (inP ps f) k v ∨ ∃ x n, f = .rise x v n ∧ k = (ixOf (nmsOf ls) x : Nat)
noncomputable def EndOk (ls : List (Str × Int)) (ps : List (Str × Fm)) (E : List (List (Int × Int))) : Prop := ∀ (i : Nat) (p : Str × Fm) (e : List (Int × Int)), ps[i]? = some p → E[i]? = some e → (e.map (·.1)).Pairwise (· < ·) ∧ ∀ k v, (k, v) ∈ e ↔ EndIs ls ps E p.2 k v
noncomputable def sp_ends : Sp := fun vs H Q _ => ∃ (b pl pp : Addr) (las pas : List Addr) (ls : List (Str × Int)) (ps : List (Str × Fm)), vs = [.ref b] ∧ BookAt H b pl pp las pas ls ps ∧ WfB ls ps ∧
 ∀ (l : Addr) (as : List Addr) (E : List (List (Int × Int))) (H' : Hp), Same H H' → H l = none → H' l = some (.lst (as.map V.ref)) → (∀ a ∈ as, H a = none) → E.length = ps.length → EndsAt H' as E → EndOk ls ps E → Q (.ref l) H'
noncomputable def MovOk (ls : List (Str × Int)) (ps : List (Str × Fm)) (M : List (List Int)) : Prop := ∀ (i : Nat) (p : Str × Fm) (ks : List Int), ps[i]? = some p → M[i]? = some ks → ks.Pairwise (· < ·) ∧ ∀ k, k ∈ ks ↔ (∃ j ∈ inP ps p.2, k ∈ M.getD j []) ∨ ∃ x h n, p.2 = .rise x h n ∧ k = (ixOf (nmsOf ls) x : Nat)
noncomputable def sp_moved : Sp := fun vs H Q _ => ∃ (b pl pp : Addr) (las pas : List Addr) (ls : List (Str × Int)) (ps : List (Str × Fm)), vs = [.ref b] ∧ BookAt H b pl pp las pas ls ps ∧ WfB ls ps ∧
 ∀ (l : Addr) (as : List Addr) (M : List (List Int)) (H' : Hp), Same H H' → H l = none → H' l = some (.lst (as.map V.ref)) → (∀ a ∈ as, H a = none) → M.length = ps.length → ListsAt H' as M → MovOk ls ps M → Q (.ref l) H'
theorem up_ext : ∀ {a b : List Int}, a.Pairwise (· < ·) → b.Pairwise (· < ·) → (∀ k, k ∈ a ↔ k ∈ b) → a = b
 | [], [], _, _, _ => rfl
 | [], y :: s, _, _, h => absurd ((h y).mpr List.mem_cons_self) (by simp)
 | x :: r, [], _, _, h => absurd ((h x).mp List.mem_cons_self) (by simp)
 | x :: r, y :: s, ha, hb, h => by
  rw [List.pairwise_cons] at ha hb
  have e : x = y := by
   rcases List.mem_cons.mp ((h x).mp List.mem_cons_self) with q | q
   ·exact q
   ·rcases List.mem_cons.mp ((h y).mpr List.mem_cons_self) with q' | q'
    ·exact q'.symm
    ·have h1 := hb.1 x q
     have h2 := ha.1 y q'
     omega
  subst e
  congr 1
  refine up_ext ha.2 hb.2 fun k => ⟨fun hk => ?_, fun hk => ?_⟩
  ·rcases List.mem_cons.mp ((h k).mp (List.mem_cons_of_mem _ hk)) with q | q
   ·have := ha.1 k hk; omega
   ·exact q
  ·rcases List.mem_cons.mp ((h k).mpr (List.mem_cons_of_mem _ hk)) with q | q
   ·have := hb.1 k hk; omega
   ·exact q
end Rm
namespace Rm
open PySem PySem.Spec PyProof.Rows L2
theorem getD_map {E : List (List (Int × Int))} (j : Nat) : (E.map fun e => e.map (·.1)).getD j [] = (E.getD j []).map (·.1) := by
 rw [List.getD_eq_getElem?_getD, List.getD_eq_getElem?_getD, List.getElem?_map]
 cases E[j]? <;> rfl
theorem mem_fst {k : Int} {e : List (Int × Int)} : k ∈ e.map (·.1) ↔ ∃ v, (k, v) ∈ e := by
 constructor
 ·intro h
  obtain ⟨p, hp, rfl⟩ := List.mem_map.mp h
  exact ⟨p.2, hp⟩
 ·rintro ⟨v, h⟩
  exact List.mem_map.mpr ⟨_, h, rfl⟩
theorem last_in {E : List (List (Int × Int))} {k : Int} : ∀ {is : List Nat}, (∃ v, LastIn E is k v) ↔ ∃ j ∈ is, ∃ v, (k, v) ∈ E.getD j []
 | [] => ⟨fun ⟨v, pre, j, post, e, _⟩ => by cases pre <;> simp at e, fun ⟨j, h, _⟩ => by simp at h⟩
 | i :: r => by
  have ih := last_in (E := E) (k := k) (is := r)
  constructor
  ·rintro ⟨v, pre, j, post, e, h1, h2⟩
   exact ⟨j, by rw [e]; simp, v, h1⟩
  ·rintro ⟨j, hj, v, hv⟩
   by_cases q : ∃ j ∈ r, ∃ v, (k, v) ∈ E.getD j []
   ·obtain ⟨v', pre, j', post, e, h1, h2⟩ := ih.mpr q
    exact ⟨v', i :: pre, j', post, by rw [e]; rfl, h1, h2⟩
   ·rcases List.mem_cons.mp hj with rfl | hj
    ·exact ⟨v, [], j, r, rfl, hv, fun j' h' v' hv' => q ⟨j', h', v', hv'⟩⟩
    ·exact absurd ⟨j, hj, v, hv⟩ q
theorem mov_of {ls : List (Str × Int)} {ps : List (Str × Fm)} {E : List (List (Int × Int))} (hl : E.length = ps.length) (h : EndOk ls ps E) : MovOk ls ps (E.map fun e => e.map (·.1)) := fun i p ks hp hk => by
 rw [List.getElem?_map] at hk
 obtain ⟨e, he, rfl⟩ := Option.map_eq_some_iff.mp hk
 obtain ⟨a, b⟩ := h i p e hp he
 refine ⟨a, fun k => ?_⟩
 rw [mem_fst]
 constructor
 ·rintro ⟨v, hv⟩
  rcases (b k v).mp hv with z | ⟨x, n, e1, e2⟩
  ·obtain ⟨j, hj, v', hv'⟩ := last_in.mp ⟨v, z⟩
   exact .inl ⟨j, hj, by rw [getD_map]; exact mem_fst.mpr ⟨v', hv'⟩⟩
  ·exact .inr ⟨x, v, n, e1, e2⟩
 ·rintro (⟨j, hj, hk⟩ | ⟨x, h, n, e1, e2⟩)
  ·rw [getD_map] at hk
   obtain ⟨v', hv'⟩ := mem_fst.mp hk
   obtain ⟨v, z⟩ := last_in.mpr ⟨j, hj, v', hv'⟩
   exact ⟨v, (b k v).mpr (.inl z)⟩
  ·exact ⟨h, (b k h).mpr (.inr ⟨x, n, e1, e2⟩)⟩
end Rm
namespace Rm
open PySem PySem.Spec PyProof.Rows L2
theorem ixOf_lt {xs : List Str} {x : Str} (h : x ∈ xs) : ixOf xs x < xs.length := by
 induction xs with
 | nil => exact nomatch h
 | cons y r ih =>
  show (if y = x then 0 else ixOf r x + 1) < r.length + 1
  split
  ·omega
  ·rename_i hne
   rcases List.mem_cons.mp h with e | e
   ·exact absurd e.symm hne
   ·have := ih e; omega
theorem ends_bnd {ls : List (Str × Int)} {ps : List (Str × Fm)} (W : WfB ls ps) {E : List (List (Int × Int))} (hl : E.length ≤ ps.length) (h : EndOk ls ps E) : ∀ (i : Nat), ∀ q ∈ E.getD i [], 0 ≤ q.1 ∧ q.1 < (ls.length : Int) := by
 intro i
 induction i using Nat.strongRecOn with
 | ind i ih =>
  intro q hq
  rw [List.getD_eq_getElem?_getD] at hq
  cases e : E[i]? with
  | none => rw [e] at hq; exact nomatch hq
  | some ev =>
   rw [e] at hq
   have hi := (List.getElem?_eq_some_iff.mp e).1
   have ep : ps[i]? = some ps[i] := List.getElem?_eq_getElem (by omega)
   obtain ⟨_, b⟩ := h i _ ev ep e
   rcases (b q.1 q.2).mp hq with ⟨pre, j, post, e1, e2, _⟩ | ⟨x, n, e1, e2⟩
   ·exact ih j (W.inP_lt ep (by rw [e1]; simp)) _ e2
   ·have ep' : ps[i]? = some (ps[i].1, .rise x q.2 n) := by rw [ep, ← e1]
    obtain ⟨j, hj⟩ := W.r i _ _ _ _ ep'
    have h3 := ixOf_lt (List.mem_of_getElem? hj)
    have h4 : (nmsOf ls).length = ls.length := List.length_map _
    rw [e2]
    omega
theorem ends_len {ls : List (Str × Int)} {ps : List (Str × Fm)} (W : WfB ls ps) {E : List (List (Int × Int))} (hl : E.length ≤ ps.length) (h : EndOk ls ps E) {i : Nat} {e : List (Int × Int)} (he : E[i]? = some e) : e.length ≤ 8 := by
 have hi := (List.getElem?_eq_some_iff.mp he).1
 have a := (h i _ e (List.getElem?_eq_getElem (by omega)) he).1
 have b := ends_bnd W hl h i
 rw [List.getD_eq_getElem?_getD, he] at b
 have z := len_of_lt (ks := e.map (·.1)) (lo := 0) (hi := ls.length) a fun k hk => by
  obtain ⟨q, hq, rfl⟩ := List.mem_map.mp hk
  exact b q hq
 rw [List.length_map] at z
 have := W.l8
 omega
noncomputable def putI (kvs : List (Int × Int)) (k v : Int) : List (Int × Int) := if k ∈ kvs.map (·.1) then kvs.map (fun q => if q.1 = k then (q.1, v) else q) else kvs ++ [(k, v)]
noncomputable def mergeI (kvs more : List (Int × Int)) : List (Int × Int) := more.foldl (fun acc q => putI acc q.1 q.2) kvs
theorem putK_iiK (kvs : List (Int × Int)) (k v : Int) : putK (kvs.map iiK) (Sum.inl k) (.int v) = (putI kvs k v).map iiK := by
 have e : (((kvs.map iiK).any fun kv => decide (kv.1 = (Sum.inl k : Key))) = true) ↔ k ∈ kvs.map (·.1) := by
  rw [List.any_map, List.any_eq_true]
  constructor
  ·rintro ⟨q, hq, h⟩
   have h' : (Sum.inl q.1 : Key) = Sum.inl k := of_decide_eq_true h
   exact List.mem_map.mpr ⟨q, hq, Sum.inl.inj h'⟩
  ·intro h
   obtain ⟨q, hq, rfl⟩ := List.mem_map.mp h
   exact ⟨q, hq, decide_eq_true rfl⟩
 unfold putK putI
 by_cases c : k ∈ kvs.map (·.1)
 ·rw [if_pos (e.mpr c), if_pos c, List.map_map, List.map_map]
  refine List.map_congr_left fun q _ => ?_
  show (if (Sum.inl q.1 : Key) = Sum.inl k then _ else _) = iiK (if q.1 = k then (q.1, v) else q)
  by_cases z : q.1 = k
  ·rw [if_pos z, if_pos (by rw [z])]; rfl
  ·rw [if_neg z, if_neg (fun w => z (Sum.inl.inj w))]
 ·rw [if_neg (fun w => c (e.mp w)), if_neg c, List.map_append]; rfl
theorem mergeK_iiK : ∀ (more kvs : List (Int × Int)), mergeK (kvs.map iiK) (more.map iiK) = (mergeI kvs more).map iiK
 | [], kvs => rfl
 | q :: r, kvs => by
  show mergeK (putK (kvs.map iiK) (Sum.inl q.1) (.int q.2)) (r.map iiK) = (mergeI (putI kvs q.1 q.2) r).map iiK
  rw [putK_iiK, mergeK_iiK r]
theorem putI_keys (kvs : List (Int × Int)) (k v : Int) (nd : (kvs.map (·.1)).Nodup) : ((putI kvs k v).map (·.1)).Nodup := by
 unfold putI
 split
 ·rw [List.map_map]
  have e : kvs.map ((fun x => x.1) ∘ fun q => if q.1 = k then (q.1, v) else q) = kvs.map (·.1) := List.map_congr_left fun q _ => by
   show (if q.1 = k then (q.1, v) else q).1 = q.1
   split <;> rfl
  rw [e]
  exact nd
 ·rename_i c
  rw [List.map_append, List.nodup_append]
  exact ⟨nd, List.pairwise_singleton _ _, fun a ha b hb e => c (by rw [show k = b from (List.mem_singleton.mp hb).symm, ← e]; exact ha)⟩
theorem mem_putI {kvs : List (Int × Int)} {k v a b : Int} : (a, b) ∈ putI kvs k v ↔ (a = k ∧ b = v) ∨ (a ≠ k ∧ (a, b) ∈ kvs) := by
 unfold putI
 split
 ·rename_i c
  rw [List.mem_map]
  constructor
  ·rintro ⟨q, hq, e⟩
   by_cases z : q.1 = k
   ·rw [if_pos z] at e
    cases e
    exact .inl ⟨z, rfl⟩
   ·rw [if_neg z] at e
    subst e
    exact .inr ⟨z, hq⟩
  ·rintro (⟨rfl, rfl⟩ | ⟨h1, h2⟩)
   ·obtain ⟨q, hq, e⟩ := List.mem_map.mp c
    exact ⟨q, hq, by rw [if_pos e, e]⟩
   ·exact ⟨(a, b), h2, by rw [if_neg h1]⟩
 ·rename_i c
  rw [List.mem_append]
  constructor
  ·rintro (h | h)
   ·exact .inr ⟨fun e => c (e ▸ List.mem_map.mpr ⟨(a, b), h, rfl⟩), h⟩
   ·cases List.mem_singleton.mp h
    exact .inl ⟨rfl, rfl⟩
  ·rintro (⟨rfl, rfl⟩ | ⟨_, h⟩)
   ·exact .inr (List.mem_singleton.mpr rfl)
   ·exact .inl h
theorem mergeI_ok : ∀ {more kvs : List (Int × Int)}, (kvs.map (·.1)).Nodup → (more.map (·.1)).Nodup → ((mergeI kvs more).map (·.1)).Nodup ∧ ∀ k v, (k, v) ∈ mergeI kvs more ↔ (k, v) ∈ more ∨ ((∀ v', (k, v') ∉ more) ∧ (k, v) ∈ kvs)
 | [], kvs, nd, _ => ⟨nd, fun k v => ⟨fun h => .inr ⟨(fun _ h => nomatch h), h⟩, fun h => h.elim (fun h => nomatch h) (·.2)⟩⟩
 | q :: r, kvs, nd, nm => by
  rw [List.map_cons, List.nodup_cons] at nm
  obtain ⟨a, b⟩ := mergeI_ok (more := r) (kvs := putI kvs q.1 q.2) (putI_keys _ _ _ nd) nm.2
  refine ⟨a, fun k v => (b k v).trans ?_⟩
  rw [mem_putI]
  have nq : ∀ v', (q.1, v') ∉ r := fun v' h => nm.1 (List.mem_map.mpr ⟨_, h, rfl⟩)
  constructor
  ·rintro (h | ⟨h1, ⟨rfl, rfl⟩ | ⟨h2, h3⟩⟩)
   ·exact .inl (List.mem_cons_of_mem _ h)
   ·exact .inl List.mem_cons_self
   ·refine .inr ⟨fun v' hv => ?_, h3⟩
    rcases List.mem_cons.mp hv with e | e
    ·exact h2 (by rw [← e])
    ·exact h1 v' e
  ·rintro (h | ⟨h1, h2⟩)
   ·rcases List.mem_cons.mp h with e | e
    ·refine .inr ⟨fun v' hv => ?_, .inl ⟨by rw [← e], by rw [← e]⟩⟩
     rw [← e] at nq
     exact nq v' hv
    ·exact .inl e
   ·refine .inr ⟨fun v' hv => h1 v' (List.mem_cons_of_mem _ hv), .inr ⟨fun e => ?_, h2⟩⟩
    exact h1 q.2 (by rw [e]; exact List.mem_cons_self)
theorem mergeI_nil {ms : List (Int × Int)} (nd : (ms.map (·.1)).Nodup) : mergeI [] ms = ms := by
 have e : ∀ (r acc : List (Int × Int)), ((acc ++ r).map (·.1)).Nodup → mergeI acc r = acc ++ r := by
  intro r
  induction r with
  | nil => intro acc _; exact (List.append_nil _).symm
  | cons q r ih =>
   intro acc nd
   have c : q.1 ∉ acc.map (·.1) := fun h => by
    rw [List.map_append, List.nodup_append] at nd
    exact nd.2.2 q.1 h q.1 (by simp) rfl
   show mergeI (putI acc q.1 q.2) r = _
   unfold putI
   rw [if_neg c, ih (acc ++ [(q.1, q.2)]) (by rw [List.append_assoc]; exact nd), List.append_assoc]
   rfl
 exact e ms [] nd
theorem last_snoc {E : List (List (Int × Int))} {is : List Nat} {j : Nat} {k v : Int} : LastIn E (is ++ [j]) k v ↔ (k, v) ∈ E.getD j [] ∨ ((∀ v', (k, v') ∉ E.getD j []) ∧ LastIn E is k v) := by
 constructor
 ·rintro ⟨pre, i, post, e, h1, h2⟩
  rcases List.eq_nil_or_concat post with rfl | ⟨post', x, rfl⟩
  ·have e' := List.append_inj' (show is ++ [j] = pre ++ [i] from e) rfl
   have ej : j = i := by simpa using e'.2
   rw [ej]
   exact .inl h1
  ·have e2 : is ++ [j] = (pre ++ i :: post') ++ [x] := by rw [e]; simp
   have e' := List.append_inj' e2 rfl
   have ej : j = x := by simpa using e'.2
   subst ej
   exact .inr ⟨h2 j (by simp), pre, i, post', e'.1, h1, fun j' hj' => h2 j' (by simp [hj'])⟩
 ·rintro (h | ⟨h1, pre, i, post, e, h2, h3⟩)
  ·exact ⟨is, j, [], rfl, h, (fun _ h => nomatch h)⟩
  ·refine ⟨pre, i, post ++ [j], by rw [e]; simp, h2, fun j' hj' v' => ?_⟩
   rcases List.mem_append.mp hj' with z | z
   ·exact h3 j' z v'
   ·rw [List.mem_singleton.mp z]; exact h1 v'
theorem last_ext {E E' : List (List (Int × Int))} {is : List Nat} (h : ∀ j ∈ is, E.getD j [] = E'.getD j []) {k v : Int} : LastIn E is k v → LastIn E' is k v := by
 rintro ⟨pre, j, post, e, h1, h2⟩
 refine ⟨pre, j, post, e, by rw [← h j (by rw [e]; simp)]; exact h1, fun j' hj' => ?_⟩
 rw [← h j' (by rw [e]; simp [hj'])]
 exact h2 j' hj'
theorem EndOk.snoc {ls : List (Str × Int)} {ps : List (Str × Fm)} (W : WfB ls ps) {E : List (List (Int × Int))} {p : Str × Fm} {e : List (Int × Int)} (h : EndOk ls ps E) (hp : ps[E.length]? = some p) (h1 : (e.map (·.1)).Pairwise (· < ·))
  (h2 : ∀ k v, (k, v) ∈ e ↔ EndIs ls ps E p.2 k v) : EndOk ls ps (E ++ [e]) := fun i q f hq hf => by
 have hle : i ≤ E.length := by
  have := (List.getElem?_eq_some_iff.mp hf).1
  rw [List.length_append] at this
  exact Nat.le_of_lt_succ this
 have ext : ∀ j ∈ inP ps q.2, E.getD j [] = (E ++ [e]).getD j [] := fun j hj => (getD_snoc (by have := W.inP_lt hq hj; omega)).symm
 have iff : ∀ k v, EndIs ls ps E q.2 k v ↔ EndIs ls ps (E ++ [e]) q.2 k v := fun k v => by
  unfold EndIs
  exact ⟨fun h => h.imp (last_ext ext) id, fun h => h.imp (last_ext fun j hj => (ext j hj).symm) id⟩
 by_cases hi : i < E.length
 ·rw [List.getElem?_append_left hi] at hf
  obtain ⟨a, b⟩ := h i q f hq hf
  exact ⟨a, fun k v => (b k v).trans (iff k v)⟩
 ·have ei : i = E.length := by omega
  subst ei
  rw [List.getElem?_append_right (Nat.le_refl _), Nat.sub_self] at hf
  have ef : e = f := by simpa using hf
  subst ef
  rw [hp] at hq
  cases hq
  exact ⟨h1, fun k v => (h2 k v).trans (iff k v)⟩
theorem kind_not {H : Hp} {a : Addr} {f : Fm} (h : FormAt H a f) (hn : ∀ x v n, f ≠ .rise x v n) : ∃ k xs, H a = some (.tup (.str k :: xs)) ∧ decide (k = ("raise" : Str)) = false := by
 cases f with
 | hold n => exact ⟨_, _, h, by decide +kernel⟩
 | ring x n => exact ⟨_, _, h, by decide +kernel⟩
 | rise x v n => exact absurd rfl (hn x v n)
 | row ps => obtain ⟨b, h1, _⟩ := h; exact ⟨_, _, h1, by decide +kernel⟩
 | side ps => obtain ⟨b, h1, _⟩ := h; exact ⟨_, _, h1, by decide +kernel⟩
 | again k x => exact ⟨_, _, h, by decide +kernel⟩
noncomputable def kv0 (ls : List (Str × Int)) : Fm → List (Int × Int)
 | .rise x h _ => [((ixOf (nmsOf ls) x : Nat), h)]
 | _ => []
theorem kv0_not {ls : List (Str × Int)} {f : Fm} (hn : ∀ x v n, f ≠ .rise x v n) : kv0 ls f = [] := by
 cases f with
 | rise x v n => exact absurd rfl (hn x v n)
 | _ => rfl
theorem mem_kv0 {ls : List (Str × Int)} {f : Fm} {k v : Int} : (k, v) ∈ kv0 ls f ↔ ∃ x n, f = .rise x v n ∧ k = (ixOf (nmsOf ls) x : Nat) := by
 cases f with
 | rise x h n =>
  constructor
  ·intro hk
   cases List.mem_singleton.mp hk
   exact ⟨x, n, rfl, rfl⟩
  ·rintro ⟨x', n', e, rfl⟩
   injection e with e1 e2 e3
   subst e1 e2
   exact List.mem_singleton.mpr rfl
 | _ => exact ⟨(fun h => nomatch h), fun ⟨_, _, e, _⟩ => nomatch e⟩
theorem kv0_in {ps : List (Str × Fm)} {ls : List (Str × Int)} (f : Fm) : inP ps f = [] ∨ kv0 ls f = [] := by
 cases f with
 | rise x h n => exact .inl rfl
 | _ => exact .inr rfl
theorem kv0_nd {ls : List (Str × Int)} (f : Fm) : ((kv0 ls f).map (·.1)).Nodup := by
 cases f with
 | rise x h n => exact List.pairwise_singleton _ _
 | _ => exact .nil
end Rm
namespace Rm
open PySem PySem.Spec PyProof.Rows L2
noncomputable def sp_check_side : Sp := fun vs H Q _ => ∃ (r : Int) (l ll : Addr) (as las : List Addr) (M : List (List Int)), vs = [.int r, .ref l, .ref ll] ∧ H l = some (.lst (as.map V.ref)) ∧ ListsAt H as M ∧ (∀ ks ∈ M, ks ≠ []) ∧ M.length ≤ 8 ∧ H ll = some (.lst (las.map V.ref)) ∧
 (∀ k : Int, (M.filter fun ks => decide (k ∈ ks)).length ≤ 1) ∧ ∀ H', Same H H' → Q .non H'
noncomputable def LenIs : Fm → List Int → Int → Prop
 | .hold n, _, g => g = n
 | .ring _ n, _, g => g = n
 | .rise _ _ n, _, g => g = n
 | .row _, gs, g => g = gs.sum
 | .side _, gs, g => g ∈ gs ∧ ∀ x ∈ gs, x ≤ g
 | .again k _, gs, g => ∃ y, gs.head? = some y ∧ g = k * y
noncomputable def LenPre : Fm → List Int → Prop
 | .side _, gs => gs ≠ []
 | .again k _, gs => ∃ y r, gs = y :: r ∧ 0 ≤ k ∧ k ≤ 10 ^ 18 ∧ 0 ≤ y ∧ y ≤ 10 ^ 60
 | _, _ => True
noncomputable def sp_length_of : Sp := fun vs H Q _ => ∃ (a l : Addr) (f : Fm) (gs : List Int), vs = [.ref a, .ref l] ∧ FormAt H a f ∧ H l = some (.lst (gs.map V.int)) ∧ LenPre f gs ∧ ∀ g, LenIs f gs g → Q (.int g) H
structure Snd (ls : List (Str × Int)) (ps : List (Str × Fm)) (gs : List Int) (hs : List (List Int)) : Prop where
 w : WfB ls ps
 gl : gs.length = ps.length
 gb : ∀ i, i < ps.length → 0 ≤ gs.getD i 0 ∧ gs.getD i 0 ≤ 10 ^ 60
 mv : ∀ M : List (List Int), M.length = ps.length → MovOk ls ps M → ∀ i, i < ps.length → M.getD i [] = hs.getD i []
 ln : ∀ (i : Nat) (p : Str × Fm), ps[i]? = some p → LenPre p.2 ((inP ps p.2).map fun j => gs.getD j 0) ∧ ∀ g, LenIs p.2 ((inP ps p.2).map fun j => gs.getD j 0) g → g = gs.getD i 0
 sd : ∀ (i : Nat) (p : Str × Fm) (qs : List Str), ps[i]? = some p → p.2 = .side qs → (∀ j ∈ inP ps p.2, hs.getD j [] ≠ []) ∧ ∀ k : Int, (((inP ps p.2).map fun j => hs.getD j []).filter fun ks => decide (k ∈ ks)).length ≤ 1
noncomputable def sp_lengths : Sp := fun vs H Q _ => ∃ (b pl pp : Addr) (las pas : List Addr) (ls : List (Str × Int)) (ps : List (Str × Fm)) (gs : List Int) (hs : List (List Int)), vs = [.ref b] ∧ BookAt H b pl pp las pas ls ps ∧ Snd ls ps gs hs ∧ ∀ (l : Addr) (H' : Hp), Same H H' → H l = none → H' l = some (.lst (gs.map V.int)) → Q (.ref l) H'
theorem any_empty {M : List (List Int)} (h : ∀ ks ∈ M, ks ≠ []) : (M.any fun ks => decide (ks = [])) = false := by
 rw [List.any_eq_false]
 intro ks hks
 simpa using h ks hks
end Rm
namespace Rm
open PySem PySem.Spec PyProof.Rows L2
end Rm
namespace Rm
open PySem PySem.Spec PyProof.Rows L2
theorem gs_take {gs : List Int} {i : Nat} (h : i < gs.length) : gs.take (i + 1) = gs.take i ++ [gs.getD i 0] := by
 refine take_snoc ?_
 rw [List.getD_eq_getElem?_getD, List.getElem?_eq_getElem h]
 rfl
theorem gs_at {gs : List Int} {i j : Nat} (hi : i ≤ gs.length) (hj : j < i) : atI ((gs.take i).map V.int) (j : Int) = some (.int (gs.getD j 0)) := by
 refine atI_nat ?_
 rw [List.getElem?_map, List.getElem?_take, if_pos hj, List.getD_eq_getElem?_getD, List.getElem?_eq_getElem (by omega)]
 rfl
end Rm
namespace Rm
open PySem PySem.Spec PyProof.Rows L2
theorem atI_nat {xs : List V} {i : Nat} {x : V} (h : xs[i]? = some x) : atI xs (0 + (i : Int)) = some x := by
 obtain ⟨hi, rfl⟩ := List.getElem?_eq_some_iff.mp h
 rw [Int.zero_add]
 unfold atI
 simp [hi, ixN]
theorem upP_ext : ∀ {a b : List (Int × Int)}, (a.map (·.1)).Pairwise (· < ·) → (b.map (·.1)).Pairwise (· < ·) → (∀ k v, (k, v) ∈ a ↔ (k, v) ∈ b) → a = b
 | [], [], _, _, _ => rfl
 | [], y :: s, _, _, h => absurd ((h y.1 y.2).mpr List.mem_cons_self) (by simp)
 | x :: r, [], _, _, h => absurd ((h x.1 x.2).mp List.mem_cons_self) (by simp)
 | x :: r, y :: s, ha, hb, h => by
  rw [List.map_cons, List.pairwise_cons] at ha hb
  have hx : ∀ q ∈ r, x.1 < q.1 := fun q hq => ha.1 _ (List.mem_map.mpr ⟨q, hq, rfl⟩)
  have hy : ∀ q ∈ s, y.1 < q.1 := fun q hq => hb.1 _ (List.mem_map.mpr ⟨q, hq, rfl⟩)
  have e : x = y := by
   rcases List.mem_cons.mp ((h x.1 x.2).mp List.mem_cons_self) with q | q
   ·exact q
   ·rcases List.mem_cons.mp ((h y.1 y.2).mpr List.mem_cons_self) with q' | q'
    ·exact q'.symm
    ·have h1 := hy _ q
     have h2 := hx _ q'
     simp only at h1 h2
     omega
  subst e
  rw [upP_ext ha.2 hb.2 fun k v => ?_]
  constructor
  ·intro hk
   rcases List.mem_cons.mp ((h k v).mp (List.mem_cons_of_mem _ hk)) with q | q
   ·have := hx _ hk
    rw [← q] at this
    simp only at this
    omega
   ·exact q
  ·intro hk
   rcases List.mem_cons.mp ((h k v).mpr (List.mem_cons_of_mem _ hk)) with q | q
   ·have := hy _ hk
    rw [← q] at this
    simp only at this
    omega
   ·exact q
theorem kv0_up {ls : List (Str × Int)} (f : Fm) : ((kv0 ls f).map (·.1)).Pairwise (· < ·) := by
 cases f <;> simp [kv0]
end Rm
namespace Rm
open PySem PySem.Spec PyProof.Rows L2
noncomputable def Fm.beats : Fm → Int
 | .hold n => n
 | .ring _ n => n
 | .rise _ _ n => n
 | _ => 0
structure One (ls : List (Str × Int)) (x : Str) (f : Fm) : Prop where
 w : WfB ls [(x, f)]
 s : (∃ n, f = .hold n) ∨ (∃ y n, f = .ring y n) ∨ ∃ y v n, f = .rise y v n ∧ 0 ≤ v ∧ v ≤ 10 ^ 18
 b1 : 1 ≤ f.beats
 b2 : f.beats ≤ 10 ^ 18
 h : ∀ q ∈ ls, 0 ≤ q.2 ∧ q.2 ≤ 10 ^ 18
section
variable {ls : List (Str × Int)} {x : Str} {f : Fm}
theorem One.ns (O : One ls x f) : f.ns = [] := by
 rcases O.s with ⟨n, rfl⟩ | ⟨y, n, rfl⟩ | ⟨y, v, n, rfl, _⟩ <;> rfl
theorem One.inP (O : One ls x f) : inP [(x, f)] f = [] := by
 unfold Rm.inP
 rw [O.ns]
 rfl
theorem One.snd (O : One ls x f) : Snd ls [(x, f)] [f.beats] [(kv0 ls f).map (·.1)] := by
 have b1 := O.b1
 have b2 := O.b2
 have z : ∀ i, i < [(x, f)].length → i = 0 := fun i hi => by have : i < 1 := hi; omega
 refine ⟨O.w, rfl, fun i hi => ?_, fun M hl h i hi => ?_, fun i p hp => ?_, fun i p qs hp e => ?_⟩
 ·rw [z i hi]
  show 0 ≤ f.beats ∧ f.beats ≤ 10 ^ 60
  omega
 ·rw [z i hi]
  match M, hl with
  | [ks], _ =>
   obtain ⟨a, b⟩ := h 0 (x, f) ks rfl rfl
   show ks = (kv0 ls f).map (·.1)
   refine up_ext a (kv0_up f) fun k => (b k).trans ?_
   rw [show Rm.inP [(x, f)] (x, f).2 = [] from O.inP, mem_fst]
   constructor
   ·rintro (⟨j, hj, _⟩ | ⟨y, v, n, e, rfl⟩)
    ·exact nomatch hj
    ·exact ⟨v, mem_kv0.mpr ⟨y, n, e, rfl⟩⟩
   ·rintro ⟨v, hv⟩
    obtain ⟨y, n, e, e'⟩ := mem_kv0.mp hv
    exact .inr ⟨y, v, n, e, e'⟩
 ·have hi := z i (List.getElem?_eq_some_iff.mp hp).1
  subst hi
  have ep : (x, f) = p := by simpa using hp
  subst ep
  show LenPre f _ ∧ ∀ g, LenIs f _ g → g = f.beats
  rcases O.s with ⟨n, rfl⟩ | ⟨y, n, rfl⟩ | ⟨y, v, n, rfl, _⟩ <;> exact ⟨trivial, fun g h => h⟩
 ·have hi := z i (List.getElem?_eq_some_iff.mp hp).1
  subst hi
  have ep : (x, f) = p := by simpa using hp
  subst ep
  have e : f = .side qs := e
  rcases O.s with ⟨n, e'⟩ | ⟨y, n, e'⟩ | ⟨y, v, n, e', _⟩ <;> rw [e] at e' <;> cases e'
theorem One.ends (O : One ls x f) {E : List (List (Int × Int))} (hl : E.length = [(x, f)].length) (h : EndOk ls [(x, f)] E) : E = [kv0 ls f] := by
 match E, hl with
 | [e], _ =>
  obtain ⟨a, b⟩ := h 0 (x, f) e rfl rfl
  congr 1
  refine upP_ext a (kv0_up f) fun k v => (b k v).trans ?_
  unfold EndIs
  rw [show Rm.inP [(x, f)] (x, f).2 = [] from O.inP]
  constructor
  ·rintro (⟨pre, j, post, e, _⟩ | h)
   ·cases pre <;> simp at e
   ·exact mem_kv0.mpr h
  ·exact fun h => .inr (mem_kv0.mp h)
end
noncomputable def dueH (ls : List (Str × Int)) (f : Fm) (j : Int) : List Int :=
 match f with
 | .rise y v n => (ls.map (·.2)).set (ixOf (nmsOf ls) y) (Rp.ramp ((ls.map (·.2)).getD (ixOf (nmsOf ls) y) 0) v n j)
 | _ => ls.map (·.2)
noncomputable def dueW (f : Fm) (j : Int) : List Str :=
 match f with
 | .ring y _ => if j = 0 then [y] else []
 | _ => []
noncomputable def sp_cellK (K : PySem.W.Frag) : Sp := fun vs H Q _ => ∃ (a : Addr) (ns : List Int) (k : Int), vs = [.ref a, .int k] ∧ SqL K H a (ns.map V.int) ∧ ns.length ≤ 63 ∧ 0 ≤ k ∧ k ≤ 100 ∧ ∀ r : Int, Q (.int r) H
noncomputable def sp_onames : Sp := fun vs H Q _ => ∃ (c : Int) (n : Nat), vs = [.int c, .int n] ∧ n ≤ 26 ∧ ∀ (p : Addr) (ws : List Str) (H' : Hp), Same H H' → H p = none → H' p = some (.lst (ws.map V.str)) → ws.length = n → ws.Nodup → (∀ x ∈ ws, Ws.isW x = true) → Q (.ref p) H'
noncomputable def sp_oalike : Sp := fun vs H Q _ => ∃ (l1 l2 : Addr) (xs : List V), vs = [.ref l1, .ref l2] ∧ H l1 = some (.lst xs) ∧ H l2 = some (.lst xs) ∧ (∀ x ∈ xs, (∃ i, x = .int i) ∨ ∃ z, x = .str z) ∧ xs.length ≤ 6000 ∧ ∀ H', Same H H' → Q (.bl true) H'
noncomputable def sp_pieces0 : Sp := fun vs H Q _ => ∃ (a l s : Addr) (f : Fm), vs = [.ref a, .ref l, .ref s] ∧ FormAt H a f ∧ f.ns = [] ∧ H l = some (.lst []) ∧ ∀ (p : Addr) (H' : Hp), Same H H' → H p = none → H' p = some (.lst []) → Q (.ref p) H'
noncomputable def sp_pieces_of0 : Sp := fun vs H Q _ => ∃ (b pl pp s : Addr) (las pas : List Addr) (ls : List (Str × Int)) (ps : List (Str × Fm)), vs = [.ref b, .ref s] ∧ BookAt H b pl pp las pas ls ps ∧ WfB ls ps ∧ (∀ p ∈ ps, p.2.ns = []) ∧
 ∀ (l : Addr) (as : List Addr) (H' : Hp), Same H H' → H l = none → H' l = some (.lst (as.map V.ref)) → as.length = ps.length → (∀ a ∈ as, H' a = some (.lst [])) → Q (.ref l) H'
noncomputable def sp_stand1 : Sp := fun vs H Q _ => ∃ (b pl pp : Addr) (las pas : List Addr) (ls : List (Str × Int)) (x : Str) (f : Fm) (j : Int), vs = [.ref b, .int j] ∧ BookAt H b pl pp las pas ls [(x, f)] ∧ One ls x f ∧ 0 ≤ j ∧ j ≤ f.beats ∧
 ∀ (l : Addr) (H' : Hp), Same H H' → H' l = some (.lst ((dueH ls f j).map V.int)) → Q (.ref l) H'
noncomputable def sp_rings1 : Sp := fun vs H Q _ => ∃ (b pl pp : Addr) (las pas : List Addr) (ls : List (Str × Int)) (x : Str) (f : Fm) (j : Int), vs = [.ref b, .int j] ∧ BookAt H b pl pp las pas ls [(x, f)] ∧ One ls x f ∧ 0 ≤ j ∧ j ≤ f.beats ∧
 ∀ (l : Addr) (H' : Hp), Same H H' → H' l = some (.lst ((dueW f j).map V.str)) → Q (.ref l) H'
noncomputable def onL (b : List Nat) (a s m k : Nat) : List Nat := b.take a ++ [97 + (s + 3 * k) % 26] ++ b.drop (a + 1) ++ [97, 98].take m
theorem onL_inj {b : List Nat} {a s m m' j k : Nat} (hj : j < 26) (hk : k < 26) (h : onL b a s m j = onL b a s m' k) : j = k := by
 unfold onL at h
 rw [List.append_assoc, List.append_assoc, List.append_assoc, List.append_assoc] at h
 have h' := List.append_cancel_left h
 simp only [List.cons_append, List.nil_append, List.cons.injEq] at h'
 omega
theorem onL_W {b : List Nat} {a s m k : Nat} {x : Str} (hb : ∀ c ∈ b, 97 ≤ c ∧ c ≤ 122) (hl : b.length ≤ 6) (ha : a < b.length) (e : x.cps.toList = onL b a s m k) : Ws.isW x = true := by
 have hm : ([97, 98].take m).length ≤ 2 := by rw [List.length_take]; exact Nat.min_le_right _ _
 have len : (onL b a s m k).length = b.length + ([97, 98].take m).length := by
  unfold onL
  simp only [List.length_append, List.length_take, List.length_drop, List.length_cons, List.length_nil]
  omega
 refine isW_of ?_ ?_ ?_ <;> rw [e]
 ·omega
 ·omega
 ·intro c hc
  unfold onL at hc
  rcases List.mem_append.mp hc with hc | hc
  ·rcases List.mem_append.mp hc with hc | hc
   ·rcases List.mem_append.mp hc with hc | hc
    ·exact hb c (List.mem_of_mem_take hc)
    ·rw [List.mem_singleton.mp hc]
     omega
   ·exact hb c (List.mem_of_mem_drop hc)
  ·have := List.mem_of_mem_take hc
   simp only [List.mem_cons, List.not_mem_nil, or_false] at this
   omega
theorem let_occ {c : Nat} (h1 : 97 ≤ c) (h2 : c ≤ 122) : Builtin.Str.occurrences (Str.ofString "abcdefghijklmnopqrstuvwxyz") ⟨#[c]⟩ 0 (Str.ofString "abcdefghijklmnopqrstuvwxyz").length 1 = [c - 97] := by
 have h : ∀ k : Nat, k < 26 → Builtin.Str.occurrences (Str.ofString "abcdefghijklmnopqrstuvwxyz") ⟨#[97 + k]⟩ 0 (Str.ofString "abcdefghijklmnopqrstuvwxyz").length 1 = [97 + k - 97] := by decide +kernel
 have e := h (c - 97) (by omega)
 rw [show 97 + (c - 97) = c by omega] at e
 exact e
theorem at2 {a b k : Int} (h0 : 0 ≤ k) (h1 : k < 2) : ∃ j : Int, atI [V.int a, .int b] k = some (.int j) ∧ (j = a ∨ j = b) := by
 have : k = 0 ∨ k = 1 := by omega
 rcases this with rfl | rfl
 ·exact ⟨a, rfl, .inl rfl⟩
 ·exact ⟨b, rfl, .inr rfl⟩
theorem at4 {k : Int} (h0 : 0 ≤ k) (h1 : k < 4) : ∃ j : Int, atI [V.int 0, .int 0, .int 1, .int 2] k = some (.int j) ∧ (j = 0 ∨ j = 1 ∨ j = 2) := by
 have : k = 0 ∨ k = 1 ∨ k = 2 ∨ k = 3 := by omega
 rcases this with rfl | rfl | rfl | rfl
 ·exact ⟨0, rfl, .inl rfl⟩
 ·exact ⟨0, rfl, .inl rfl⟩
 ·exact ⟨1, rfl, .inr (.inl rfl)⟩
 ·exact ⟨2, rfl, .inr (.inr rfl)⟩
end Rm
namespace Rm
open PySem PySem.Spec PyProof.Rows L2
theorem atI_code {xs : List Nat} {i : Int} {c : Nat} (h0 : 0 ≤ i) (h : xs[i.toNat]? = some c) : atI xs i = some c := by
 have q : ∀ k : Nat, xs[k]? = some c → atI xs (k : Int) = some c := fun k hk => by
  obtain ⟨hi, rfl⟩ := List.getElem?_eq_some_iff.mp hk
  unfold atI ixN
  simp [hi]
 have := q i.toNat h
 rw [Int.toNat_of_nonneg h0] at this
 exact this
theorem onL_good {b : List Nat} {a s n e : Nat} {ws : List Str} (hn : n ≤ 26) (hb : ∀ c ∈ b, 97 ≤ c ∧ c ≤ 122) (hl : b.length ≤ 6) (ha : a < b.length) (hw : ws.length = n) (h : ∀ j, j < n → (ws[j]?).map (·.cps.toList) = some (onL b a s (j % 3 * e) j)) :
  ws.Nodup ∧ ∀ x ∈ ws, Ws.isW x = true := by
 have h' : ∀ j (hj : j < ws.length), ws[j].cps.toList = onL b a s (j % 3 * e) j := fun j hj => by
  have e := h j (by omega)
  rw [List.getElem?_eq_getElem hj] at e
  exact Option.some.inj e
 constructor
 ·refine List.pairwise_iff_getElem.mpr fun i j hi hj hij e => ?_
  have e1 := h' i hi
  rw [e, h' j hj] at e1
  have := onL_inj (by omega) (by omega) e1
  omega
 ·intro x hx
  obtain ⟨j, hj, rfl⟩ := List.mem_iff_getElem.mp hx
  exact onL_W hb hl ha (h' j hj)
theorem on_snoc {F : Nat → List Nat} {ws : List Str} {i : Nat} {y : Str} (hn : ws.length = i) (h : ∀ j, j < i → (ws[j]?).map (·.cps.toList) = some (F j)) (hy : y.cps.toList = F i) : ∀ j, j < i + 1 → ((ws ++ [y])[j]?).map (·.cps.toList) = some (F j) := fun j hj => by
 by_cases z : j < i
 ·rw [List.getElem?_append_left (by omega)]
  exact h j z
 ·have e : j = i := by omega
  subst e
  rw [List.getElem?_append_right (by omega), hn, Nat.sub_self]
  exact congrArg some hy
theorem ixZ {n : Nat} {k : Int} (h0 : 0 ≤ k) (h1 : k < n) : ixN n k = some k.toNat := by
 have q0 : ∀ j : Nat, j < n → ixN n (j : Int) = some j := fun j h => by
  unfold ixN
  simp [h]
 have q := q0 k.toNat (by omega)
 rw [Int.toNat_of_nonneg h0] at q
 exact q
end Rm
namespace Rm
open PySem PySem.Spec PyProof.Rows L2
structure Sa where
 d : Addr
 f : Addr
 o : Addr
 s : Addr
 l : Addr
 p : Addr
 fb : List Addr
 la : List Addr
 pa : List Addr
noncomputable def fldS (z : Sa) : List (Str × V) := putF "pieces" (.ref z.p) (putF "left" (.ref z.l) (putF "sizes" (.ref z.s) (putF "forms" (.ref z.o) (putF "first" (.ref z.f) (putF "limbs" (.ref z.d) [])))))
section
variable {z : Sa}
theorem fld_ne {a b : Str} {v : V} {r : List (Str × V)} (h : ¬ a = b) : (putF b v r).lookup a = r.lookup a := by rw [lookup_putF, if_neg h]
theorem fld_eq {a : Str} {v : V} {r : List (Str × V)} : (putF a v r).lookup a = some v := by rw [lookup_putF, if_pos rfl]
theorem fld_pieces : (fldS z).lookup ("pieces" : Str) = some (.ref z.p) := fld_eq
theorem fld_left : (fldS z).lookup ("left" : Str) = some (.ref z.l) := (fld_ne (by decide +kernel)).trans fld_eq
theorem fld_sizes : (fldS z).lookup ("sizes" : Str) = some (.ref z.s) := (fld_ne (by decide +kernel)).trans ((fld_ne (by decide +kernel)).trans fld_eq)
theorem fld_forms : (fldS z).lookup ("forms" : Str) = some (.ref z.o) := (fld_ne (by decide +kernel)).trans ((fld_ne (by decide +kernel)).trans ((fld_ne (by decide +kernel)).trans fld_eq))
theorem fld_first : (fldS z).lookup ("first" : Str) = some (.ref z.f) := (fld_ne (by decide +kernel)).trans ((fld_ne (by decide +kernel)).trans ((fld_ne (by decide +kernel)).trans ((fld_ne (by decide +kernel)).trans fld_eq)))
theorem fld_limbs : (fldS z).lookup ("limbs" : Str) = some (.ref z.d) := (fld_ne (by decide +kernel)).trans ((fld_ne (by decide +kernel)).trans ((fld_ne (by decide +kernel)).trans ((fld_ne (by decide +kernel)).trans ((fld_ne (by decide +kernel)).trans fld_eq))))
theorem fld_no {m : Str} (h1 : ¬ m = "pieces") (h2 : ¬ m = "left") (h3 : ¬ m = "sizes") (h4 : ¬ m = "forms") (h5 : ¬ m = "first") (h6 : ¬ m = "limbs") : (fldS z).lookup m = none := (fld_ne h1).trans ((fld_ne h2).trans ((fld_ne h3).trans ((fld_ne h4).trans ((fld_ne h5).trans (fld_ne h6)))))
theorem len_putF (f : Str) (v : V) : ∀ r : List (Str × V), (putF f v r).length ≤ r.length + 1
 | [] => Nat.le_refl _
 | (g, u) :: r => by
  unfold putF
  split
  ·exact Nat.le_succ _
  ·rw [List.length_cons, List.length_cons]
   have := len_putF f v r
   omega
end
theorem BookAt.less {H : Hp} {a C dx : Addr} {fs : List (Str × V)} {b pl pp : Addr} {las pas : List Addr} {ls : List (Str × Int)} {ps : List (Str × Fm)} (ha : H a = some (.ins C dx fs)) (B : BookAt H b pl pp las pas ls ps) :
  ∃ H0 : Hp, (∀ H', (∀ c u, c ≠ a → H c = some u → H' c = some u) → Same H0 H') ∧ (∀ {c u}, H0 c = some u → c ≠ a) ∧ BookAt H0 b pl pp las pas ls ps := by
 have kt : ∀ {c : Addr} {xs : List V}, H c = some (.tup xs) → (fun c => if c = a then none else H c) c = some (.tup xs) := fun {c xs} h => by
  show (if c = a then none else H c) = _
  rw [if_neg (fun z => by rw [z, ha] at h; cases h)]
  exact h
 have kl : ∀ {c : Addr} {xs : List V}, H c = some (.lst xs) → (fun c => if c = a then none else H c) c = some (.lst xs) := fun {c xs} h => by
  show (if c = a then none else H c) = _
  rw [if_neg (fun z => by rw [z, ha] at h; cases h)]
  exact h
 refine ⟨fun c => if c = a then none else H c, fun H' k c u h => ?_, fun {c u} h => ?_, kt B.t, kl B.l, B.la.mono fun a x hx => kt hx, kl B.p, B.pa.mono fun a x hx => ?_⟩
 ·have h : (if c = a then none else H c) = some u := h
  by_cases e : c = a
  ·rw [if_pos e] at h; cases h
  ·rw [if_neg e] at h; exact k c u e h
 ·have h : (if c = a then none else H c) = some u := h
  intro e
  rw [if_pos e] at h
  cases h
 ·obtain ⟨fb, h1, h2⟩ := hx
  refine ⟨fb, kt h1, ?_⟩
  cases hx2 : x.2 with
  | row r => rw [hx2] at h2; obtain ⟨c, h3, h4⟩ := h2; exact ⟨c, kt h3, kt h4⟩
  | side r => rw [hx2] at h2; obtain ⟨c, h3, h4⟩ := h2; exact ⟨c, kt h3, kt h4⟩
  | hold n => rw [hx2] at h2; exact kt h2
  | ring y n => rw [hx2] at h2; exact kt h2
  | rise y v n => rw [hx2] at h2; exact kt h2
  | again k y => rw [hx2] at h2; exact kt h2
end Rm
namespace Rm
open PySem PySem.Spec PyProof.Rows L2
theorem few {f : Str} {v : V} {r : List (Str × V)} {n : Nat} (h : (putF f v r).length ≤ n) (k : n < 1000) : (putF f v r).length < 1000 := Nat.lt_of_le_of_lt h k
section
variable {a b c d e : Str} {u v w x y : V}
theorem few3 : (putF c w (putF b v (putF a u []))).length < 1000 := by
 have := len_putF c w (putF b v (putF a u []))
 have := len_putF b v (putF a u [])
 have := len_putF a u []
 simp at *
 omega
theorem few4 : (putF d x (putF c w (putF b v (putF a u [])))).length < 1000 := by
 have := len_putF d x (putF c w (putF b v (putF a u [])))
 have := len_putF c w (putF b v (putF a u []))
 have := len_putF b v (putF a u [])
 have := len_putF a u []
 simp at *
 omega
theorem few5 : (putF e y (putF d x (putF c w (putF b v (putF a u []))))).length < 1000 := by
 have := len_putF e y (putF d x (putF c w (putF b v (putF a u []))))
 have := len_putF d x (putF c w (putF b v (putF a u [])))
 have := len_putF c w (putF b v (putF a u []))
 have := len_putF b v (putF a u [])
 have := len_putF a u []
 simp at *
 omega
end
end Rm
namespace Rm
open PySem PySem.Spec PyProof.Rows L2
structure Stage1 (C : Addr) (H : Hp) (a : Addr) (z : Sa) (ls : List (Str × Int)) (f : Fm) : Prop where
 ob : ∃ dx, H a = some (.ins C dx (fldS z))
 hd : H z.d = some (.dK (numK (nmsOf ls)))
 hf : H z.f = some (.lst ((ls.map (·.2)).map V.int))
 ho : ∃ fb, H z.o = some (.lst [.ref fb]) ∧ FormAt H fb f
 hs : H z.s = some (.lst [.int f.beats])
 hl : ∃ e bs, H z.l = some (.lst [.ref e]) ∧ H e = some (.lst (bs.map V.ref)) ∧ PrsAt H bs (kv0 ls f)
 hp : ∃ q, H z.p = some (.lst [.ref q]) ∧ H q = some (.lst [])
theorem Stage1.same {C : Addr} {H H' : Hp} {a : Addr} {z : Sa} {ls : List (Str × Int)} {f : Fm} (A : Stage1 C H a z ls f) (s : Same H H') : Stage1 C H' a z ls f :=
 ⟨A.ob.imp fun dx h => s _ _ h, s _ _ A.hd, s _ _ A.hf, A.ho.imp fun b h => ⟨s _ _ h.1, FormAt.same s h.2⟩, s _ _ A.hs, A.hl.imp fun e h => h.imp fun bs h => ⟨s _ _ h.1, s _ _ h.2.1, All2.mono h.2.2 fun c q h => s _ _ h⟩, A.hp.imp fun q h => ⟨s _ _ h.1, s _ _ h.2⟩⟩
noncomputable def sp_none1 : Sp := fun vs H Q _ => ∃ (l s : Addr) (t : Int), vs = [.ref l, .ref s, .int t] ∧ H l = some (.lst []) ∧ ∀ (p : Addr) (H' : Hp), Same H H' → H p = none → H' p = some (.lst []) → Q (.ref p) H'
noncomputable def sp_init1 (C : Addr) : Sp := fun vs H Q _ => ∃ (a dx b pl pp : Addr) (las pas : List Addr) (ls : List (Str × Int)) (x : Str) (f : Fm), vs = [.ref a, .ref b] ∧ H a = some (.ins C dx []) ∧ BookAt H b pl pp las pas ls [(x, f)] ∧ One ls x f ∧
 ∀ (z : Sa) (H' : Hp), (∀ c u, c ≠ a → H c = some u → H' c = some u) → Stage1 C H' a z ls f → Q .non H'
noncomputable def sp_scene1 (C : Addr) : Sp := fun vs H Q _ => ∃ (a : Addr) (z : Sa) (ls : List (Str × Int)) (x : Str) (f : Fm) (j : Int), vs = [.ref a, .int j] ∧ Stage1 C H a z ls f ∧ One ls x f ∧ 0 ≤ j ∧ j ≤ f.beats ∧
 ∀ (r l1 l2 : Addr) (H' : Hp), Same H H' → H l1 = none → l1 ≠ l2 → H' r = some (.tup [.ref l1, .ref l2]) →
  (j < f.beats ∧ (∃ t, H' l1 = some (.lst ((ls.map (·.2)).map V.int)) ∧ H' l2 = some (.lst [.ref t]) ∧ H' t = some (.tup [.int 0, .int j])) ∨ j = f.beats ∧ H' l1 = some (.lst ((dueH ls f j).map V.int)) ∧ H' l2 = some (.lst [])) → Q (.ref r) H'
noncomputable def sp_heights1 (C : Addr) : Sp := fun vs H Q _ => ∃ (a : Addr) (z : Sa) (ls : List (Str × Int)) (x : Str) (f : Fm) (j : Int), vs = [.ref a, .int j] ∧ Stage1 C H a z ls f ∧ One ls x f ∧ 0 ≤ j ∧ j ≤ f.beats ∧
 ∀ (l : Addr) (H' : Hp), Same H H' → H' l = some (.lst ((dueH ls f j).map V.int)) → Q (.ref l) H'
noncomputable def sp_words1 (C : Addr) : Sp := fun vs H Q _ => ∃ (a : Addr) (z : Sa) (ls : List (Str × Int)) (x : Str) (f : Fm) (j : Int), vs = [.ref a, .int j] ∧ Stage1 C H a z ls f ∧ One ls x f ∧ 0 ≤ j ∧ j ≤ f.beats ∧
 ∀ (l : Addr) (H' : Hp), Same H H' → H' l = some (.lst ((dueW f j).map V.str)) → Q (.ref l) H'
end Rm
namespace K16
open PySem L2
noncomputable def top (i : Nat) : Stmt := PySem.Challenge.pw_camplay_k16_one_part_far.main.body.getD i (.Pass ⟨0, 0, 0, 0⟩)
noncomputable abbrev s_numbers_of : Stmt := top 8
theorem sc_numbers_of : FnScope ["named", "numbers", "number", "one"] ["named"] (defScope s_numbers_of) := ⟨rfl, rfl, rfl, by decide +kernel, rfl, by decide +kernel, by decide +kernel⟩
noncomputable abbrev s_names_in : Stmt := top 9
theorem sc_names_in : FnScope ["form"] ["form"] (defScope s_names_in) := ⟨rfl, rfl, rfl, by decide +kernel, rfl, by decide +kernel, by decide +kernel⟩
noncomputable abbrev s_inner : Stmt := top 11
theorem sc_inner : FnScope ["book", "numbers", "found", "name", "form"] ["book"] (defScope s_inner) := ⟨rfl, rfl, rfl, by decide +kernel, rfl, by decide +kernel, by decide +kernel⟩
noncomputable abbrev s_ends : Stmt := top 12
theorem sc_ends : FnScope ["book", "limbs", "found", "part", "inside", "form", "left", "other"] ["book"] (defScope s_ends) := ⟨rfl, rfl, rfl, by decide +kernel, rfl, by decide +kernel, by decide +kernel⟩
noncomputable abbrev s_moved : Stmt := top 13
theorem sc_moved : FnScope ["book", "found", "left"] ["book"] (defScope s_moved) := ⟨rfl, rfl, rfl, by decide +kernel, rfl, by decide +kernel, by decide +kernel⟩
noncomputable abbrev s_check_side : Stmt := top 14
theorem sc_check_side : FnScope ["row", "moves", "limbs", "number", "limb"] ["row", "moves", "limbs"] (defScope s_check_side) := ⟨rfl, rfl, rfl, by decide +kernel, rfl, by decide +kernel, by decide +kernel⟩
noncomputable abbrev s_length_of : Stmt := top 15
theorem sc_length_of : FnScope ["form", "inside"] ["form", "inside"] (defScope s_length_of) := ⟨rfl, rfl, rfl, by decide +kernel, rfl, by decide +kernel, by decide +kernel⟩
noncomputable abbrev s_lengths : Stmt := top 16
theorem sc_lengths : FnScope ["book", "moves", "found", "row", "inside", "form", "length"] ["book"] (defScope s_lengths) := ⟨rfl, rfl, rfl, by decide +kernel, rfl, by decide +kernel, by decide +kernel⟩
noncomputable abbrev s_ramp : Stmt := top 18
theorem sc_ramp : FnScope ["start", "goal", "beats", "j"] ["start", "goal", "beats", "j"] (defScope s_ramp) := ⟨rfl, rfl, rfl, by decide +kernel, rfl, by decide +kernel, by decide +kernel⟩
noncomputable abbrev s_pieces_in : Stmt := top 20
theorem sc_pieces_in : FnScope ["form", "inside", "sizes", "part", "later", "found", "begin"] ["form", "inside", "sizes"] (defScope s_pieces_in) := ⟨rfl, rfl, rfl, by decide +kernel, rfl, by decide +kernel, by decide +kernel⟩
noncomputable abbrev s_pieces_of : Stmt := top 21
theorem sc_pieces_of : FnScope ["book", "sizes"] ["book", "sizes"] (defScope s_pieces_of) := ⟨rfl, rfl, rfl, by decide +kernel, rfl, by decide +kernel, by decide +kernel⟩
noncomputable abbrev s_progress : Stmt := top 22
theorem sc_progress : FnScope ["pieces", "sizes", "gone", "found", "part", "turns", "begin", "over", "rest"] ["pieces", "sizes", "gone"] (defScope s_progress) := ⟨rfl, rfl, rfl, by decide +kernel, rfl, by decide +kernel, by decide +kernel⟩
noncomputable abbrev s_within : Stmt := top 24
theorem sc_within : FnScope ["pieces", "sizes", "gone", "found", "part", "begin", "over", "rest"] ["pieces", "sizes", "gone"] (defScope s_within) := ⟨rfl, rfl, rfl, by decide +kernel, rfl, by decide +kernel, by decide +kernel⟩
noncomputable abbrev s_Stage___init__ : Stmt := (inClass (top 25) 0)
theorem sc_Stage___init__ : FnScope ["self", "book"] ["self", "book"] (defScope s_Stage___init__) := ⟨rfl, rfl, rfl, by decide +kernel, rfl, by decide +kernel, by decide +kernel⟩
noncomputable abbrev s_Stage_scene : Stmt := (inClass (top 25) 1)
theorem sc_Stage_scene : FnScope ["self", "beat", "starts", "playing", "todo", "now", "limb", "height"] ["self", "beat"] (defScope s_Stage_scene) := ⟨rfl, rfl, rfl, by decide +kernel, rfl, by decide +kernel, by decide +kernel⟩
noncomputable abbrev s_Stage_heights_at : Stmt := (inClass (top 25) 2)
theorem sc_Stage_heights_at : FnScope ["self", "beat", "scene", "heights", "part", "gone", "form", "limb"] ["self", "beat"] (defScope s_Stage_heights_at) := ⟨rfl, rfl, rfl, by decide +kernel, rfl, by decide +kernel, by decide +kernel⟩
noncomputable abbrev s_Stage_words_at : Stmt := (inClass (top 25) 3)
theorem sc_Stage_words_at : FnScope ["self", "beat", "words", "part", "gone", "form"] ["self", "beat"] (defScope s_Stage_words_at) := ⟨rfl, rfl, rfl, by decide +kernel, rfl, by decide +kernel, by decide +kernel⟩
noncomputable abbrev s_stand : Stmt := top 26
theorem sc_stand : FnScope ["book", "beat"] ["book", "beat"] (defScope s_stand) := ⟨rfl, rfl, rfl, by decide +kernel, rfl, by decide +kernel, by decide +kernel⟩
noncomputable abbrev s_rings : Stmt := top 27
theorem sc_rings : FnScope ["book", "beat"] ["book", "beat"] (defScope s_rings) := ⟨rfl, rfl, rfl, by decide +kernel, rfl, by decide +kernel, by decide +kernel⟩
noncomputable abbrev s__law_cell : Stmt := top 29
theorem sc__law_cell : FnScope ["_law_script", "_law_k", "_law_number"] ["_law_script", "_law_k"] (defScope s__law_cell) := ⟨rfl, rfl, rfl, by decide +kernel, rfl, by decide +kernel, by decide +kernel⟩
noncomputable abbrev s__law_names : Stmt := top 30
theorem sc__law_names : FnScope ["_law_cell_here", "_law_many", "_law_letters", "_law_long", "_law_at", "_law_seed", "_law_base", "_law_k", "_law_spot", "_law_names_here", "_law_sign", "_law_more"] ["_law_cell_here", "_law_many"] (defScope s__law_names) := ⟨rfl, rfl, rfl, by decide +kernel, rfl, by decide +kernel, by decide +kernel⟩
noncomputable abbrev s__law_alike : Stmt := top 31
theorem sc__law_alike : FnScope ["_law_found", "_law_due", "_law_one", "_law_other"] ["_law_found", "_law_due"] (defScope s__law_alike) := ⟨rfl, rfl, rfl, by decide +kernel, rfl, by decide +kernel, by decide +kernel⟩
noncomputable abbrev s_law : Stmt := top 32
theorem sc_law : FnScope ["_law_script", "_law_names_here", "_law_many", "_law_limbs", "_law_beats", "_law_goal", "_law_at", "_law_form", "_law_way", "_law_book", "_law_parts", "_law_beat", "_law_due"] ["_law_script"] (defScope s_law) := ⟨rfl, rfl, rfl, by decide +kernel, rfl, by decide +kernel, by decide +kernel⟩
set_option genInjectivity false in
set_option genSizeOf false in
structure Ad where
  a_numbers_of : Addr
  d_numbers_of : FuncData
  a_names_in : Addr
  d_names_in : FuncData
  a_inner : Addr
  d_inner : FuncData
  a_ends : Addr
  d_ends : FuncData
  a_moved : Addr
  d_moved : FuncData
  a_check_side : Addr
  d_check_side : FuncData
  a_length_of : Addr
  d_length_of : FuncData
  a_lengths : Addr
  d_lengths : FuncData
  a_ramp : Addr
  d_ramp : FuncData
  a_pieces_in : Addr
  d_pieces_in : FuncData
  a_pieces_of : Addr
  d_pieces_of : FuncData
  a_progress : Addr
  d_progress : FuncData
  a_within : Addr
  d_within : FuncData
  a_Stage___init__ : Addr
  d_Stage___init__ : FuncData
  a_Stage_scene : Addr
  d_Stage_scene : FuncData
  a_Stage_heights_at : Addr
  d_Stage_heights_at : FuncData
  a_Stage_words_at : Addr
  d_Stage_words_at : FuncData
  a_stand : Addr
  d_stand : FuncData
  a_rings : Addr
  d_rings : FuncData
  a__law_cell : Addr
  d__law_cell : FuncData
  a__law_names : Addr
  d__law_names : FuncData
  a__law_alike : Addr
  d__law_alike : FuncData
  a_law : Addr
  d_law : FuncData
  c_Stage : Addr
  u_MOST_NAMES : Addr
structure Txt (K : PySem.W.Frag) (mg : Str → Option Value) (t : Ad) : Prop where
  F_numbers_of : Fun K "numbers_of" "numbers_of" s_numbers_of t.a_numbers_of t.d_numbers_of
  m_numbers_of : mg "numbers_of" = some (.ref t.a_numbers_of)
  B_numbers_of : Binds K t.d_numbers_of ["named"] []
  F_names_in : Fun K "names_in" "names_in" s_names_in t.a_names_in t.d_names_in
  m_names_in : mg "names_in" = some (.ref t.a_names_in)
  B_names_in : Binds K t.d_names_in ["form"] []
  F_inner : Fun K "inner" "inner" s_inner t.a_inner t.d_inner
  m_inner : mg "inner" = some (.ref t.a_inner)
  B_inner : Binds K t.d_inner ["book"] []
  F_ends : Fun K "ends" "ends" s_ends t.a_ends t.d_ends
  m_ends : mg "ends" = some (.ref t.a_ends)
  B_ends : Binds K t.d_ends ["book"] []
  F_moved : Fun K "moved" "moved" s_moved t.a_moved t.d_moved
  m_moved : mg "moved" = some (.ref t.a_moved)
  B_moved : Binds K t.d_moved ["book"] []
  F_check_side : Fun K "check_side" "check_side" s_check_side t.a_check_side t.d_check_side
  m_check_side : mg "check_side" = some (.ref t.a_check_side)
  B_check_side : Binds K t.d_check_side ["row", "moves", "limbs"] []
  F_length_of : Fun K "length_of" "length_of" s_length_of t.a_length_of t.d_length_of
  m_length_of : mg "length_of" = some (.ref t.a_length_of)
  B_length_of : Binds K t.d_length_of ["form", "inside"] []
  F_lengths : Fun K "lengths" "lengths" s_lengths t.a_lengths t.d_lengths
  m_lengths : mg "lengths" = some (.ref t.a_lengths)
  B_lengths : Binds K t.d_lengths ["book"] []
  F_ramp : Fun K "ramp" "ramp" s_ramp t.a_ramp t.d_ramp
  m_ramp : mg "ramp" = some (.ref t.a_ramp)
  B_ramp : Binds K t.d_ramp ["start", "goal", "beats", "j"] []
  F_pieces_in : Fun K "pieces_in" "pieces_in" s_pieces_in t.a_pieces_in t.d_pieces_in
  m_pieces_in : mg "pieces_in" = some (.ref t.a_pieces_in)
  B_pieces_in : Binds K t.d_pieces_in ["form", "inside", "sizes"] []
  F_pieces_of : Fun K "pieces_of" "pieces_of" s_pieces_of t.a_pieces_of t.d_pieces_of
  m_pieces_of : mg "pieces_of" = some (.ref t.a_pieces_of)
  B_pieces_of : Binds K t.d_pieces_of ["book", "sizes"] []
  F_progress : Fun K "progress" "progress" s_progress t.a_progress t.d_progress
  m_progress : mg "progress" = some (.ref t.a_progress)
  B_progress : Binds K t.d_progress ["pieces", "sizes", "gone"] []
  F_within : Fun K "within" "within" s_within t.a_within t.d_within
  m_within : mg "within" = some (.ref t.a_within)
  B_within : Binds K t.d_within ["pieces", "sizes", "gone"] []
  F_Stage___init__ : Fun K "__init__" "Stage.__init__" s_Stage___init__ t.a_Stage___init__ t.d_Stage___init__
  me_Stage___init__ : Meth K t.c_Stage "__init__" t.a_Stage___init__
  B_Stage___init__ : Binds K t.d_Stage___init__ ["self", "book"] []
  F_Stage_scene : Fun K "scene" "Stage.scene" s_Stage_scene t.a_Stage_scene t.d_Stage_scene
  me_Stage_scene : Meth K t.c_Stage "scene" t.a_Stage_scene
  B_Stage_scene : Binds K t.d_Stage_scene ["self", "beat"] []
  F_Stage_heights_at : Fun K "heights_at" "Stage.heights_at" s_Stage_heights_at t.a_Stage_heights_at t.d_Stage_heights_at
  me_Stage_heights_at : Meth K t.c_Stage "heights_at" t.a_Stage_heights_at
  B_Stage_heights_at : Binds K t.d_Stage_heights_at ["self", "beat"] []
  F_Stage_words_at : Fun K "words_at" "Stage.words_at" s_Stage_words_at t.a_Stage_words_at t.d_Stage_words_at
  me_Stage_words_at : Meth K t.c_Stage "words_at" t.a_Stage_words_at
  B_Stage_words_at : Binds K t.d_Stage_words_at ["self", "beat"] []
  F_stand : Fun K "stand" "stand" s_stand t.a_stand t.d_stand
  m_stand : mg "stand" = some (.ref t.a_stand)
  B_stand : Binds K t.d_stand ["book", "beat"] []
  F_rings : Fun K "rings" "rings" s_rings t.a_rings t.d_rings
  m_rings : mg "rings" = some (.ref t.a_rings)
  B_rings : Binds K t.d_rings ["book", "beat"] []
  F__law_cell : Fun K "_law_cell" "_law_cell" s__law_cell t.a__law_cell t.d__law_cell
  m__law_cell : mg "_law_cell" = some (.ref t.a__law_cell)
  B__law_cell : Binds K t.d__law_cell ["_law_script", "_law_k"] []
  F__law_names : Fun K "_law_names" "_law_names" s__law_names t.a__law_names t.d__law_names
  m__law_names : mg "_law_names" = some (.ref t.a__law_names)
  B__law_names : Binds K t.d__law_names ["_law_cell_here", "_law_many"] []
  F__law_alike : Fun K "_law_alike" "_law_alike" s__law_alike t.a__law_alike t.d__law_alike
  m__law_alike : mg "_law_alike" = some (.ref t.a__law_alike)
  B__law_alike : Binds K t.d__law_alike ["_law_found", "_law_due"] []
  F_law : Fun K "law" "law" s_law t.a_law t.d_law
  m_law : mg "law" = some (.ref t.a_law)
  B_law : Binds K t.d_law ["_law_script"] []
  cl_Stage : Cls K t.c_Stage
  M_Stage : Mk K t.c_Stage t.a_Stage___init__
  mg_Stage : mg "Stage" = some (.ref t.c_Stage)
  n_Stage_limbs : NoAttr K t.c_Stage "limbs"
  n_Stage_first : NoAttr K t.c_Stage "first"
  n_Stage_forms : NoAttr K t.c_Stage "forms"
  n_Stage_sizes : NoAttr K t.c_Stage "sizes"
  n_Stage_left : NoAttr K t.c_Stage "left"
  n_Stage_pieces : NoAttr K t.c_Stage "pieces"
  b_bool : mg "bool" = none
  b_dict : mg "dict" = none
  b_enumerate : mg "enumerate" = none
  b_int : mg "int" = none
  b_isinstance : mg "isinstance" = none
  b_len : mg "len" = none
  b_list : mg "list" = none
  b_max : mg "max" = none
  b_min : mg "min" = none
  b_range : mg "range" = none
  b_sorted : mg "sorted" = none
  b_str : mg "str" = none
  b_sum : mg "sum" = none
  b_zip : mg "zip" = none
  c_MOST_NAMES : mg "MOST_NAMES" = some (.ref t.u_MOST_NAMES)
  k_MOST_NAMES : TabK K t.u_MOST_NAMES [("row", .flat (.int 8)), ("side", .flat (.int 4))]
section
variable {P : Program} {w : World} {K : PySem.W.Frag} {mg : Str → Option Value} {base : Heap} {t : Ad}
theorem ok_numbers_of (T : Txt K mg t) : FnOk P w K mg base CX0 1 t.a_numbers_of t.d_numbers_of ["named"] (Rm.sp_numbers_of) := by
  refine T.F_numbers_of.ok sc_numbers_of (fun vs H Q E h => ?_) (fun cdv A outer s H vs Q E hr h => ?_)
  · obtain ⟨l, as, xs, rfl, el, hl, ha, nd, h100, q⟩ := h
    rfl
  obtain ⟨l, as, xs, rfl, el, hl, ha, nd, h100, q⟩ := h
  refine ⟨_, (pss_cons (ps_set (i := 1) sc_numbers_of.nd rfl (.inl rfl) pe_dnewK)
    (pss_cons (ps_for PassesOwn.never rfl (pi_enum (by rfl) T.b_enumerate (pa_cons (pv 0) pa_nil)) (pg_tup rfl (pgs_cons (pg_name (i := 2) sc_numbers_of.nd rfl (.inl rfl)) (pgs_cons (pg_name (i := 3) sc_numbers_of.nd rfl (.inl rfl)) pgs_nil)))
      (pss_one (ps_dput (hu_of hr) (pv 1) (pe_ix ix_tup (pv 3) pe_int (fun _ _ => rfl)) (pv 2) rfl)))
    (pss_one (ps_ret (pv 1))))), ?_⟩
  refine rd_start (σ' := [some _, none, none, none]) rfl ?_
  have sz : (200 : Nat) < sizeLine := by decide
  walk_at "go"
  intro d hd; generalize eH : L2.upd _ d _ = H1; have s1 := L2.same_of hd eH; have t1 := L2.at_of eH; clear eH
  walk_at "go"
  refine ⟨l, _, rfl, SqL.of (s1 _ _ el), ?_⟩
  refine for_enum (xs := as.map V.ref) (fun i σ H' => ∃ o2 o3 : Option V, σ = [some (.ref l), some (.ref d), o2, o3] ∧ Same H H' ∧ H' d = some (.dK (Rm.numK (xs.take i)))) ⟨_, _, rfl, s1, t1⟩ ?_ ?_ ?_
  · rintro i σ H' _ ⟨o2, o3, rfl, sm, ed⟩
    exact SqL.of (sm _ _ el)
  · rintro i v σ H' P H'' hx ⟨o2, o3, rfl, sm, ed⟩ sP tP
    rw [List.getElem?_map] at hx
    obtain ⟨a, ea, rfl⟩ := Option.map_eq_some_iff.mp hx
    have hi := (List.getElem?_eq_some_iff.mp ea).1
    have ex : xs[i]? = some xs[i] := List.getElem?_eq_getElem (by omega)
    obtain ⟨r, er⟩ := ha i a _ ea ex
    have s2 := sm.trans sP
    have tl : (xs.take i).length = i := by rw [List.length_take]; omega
    refine rd_gT2 (SqT.of tP) ?_
    walk_at "go"
    refine ⟨a, _, _, _, rfl, rfl, SqT.of (s2 _ _ er), rfl, ?_⟩
    refine ⟨d, _, rfl, DPut.k (k := Sum.inr xs[i]) (sP _ _ ed) (by rw [Rm.numK_len, tl]; omega), ?_⟩
    have hk : (Sum.inr xs[i] : Key) ∉ (Rm.numK (xs.take i)).map (·.1) := fun z => by
      rw [Rm.numK_keys] at z
      obtain ⟨y, hy, e⟩ := List.mem_map.mp z
      have e' : y = xs[i] := Sum.inr.inj e
      subst e'
      obtain ⟨j, hj, e⟩ := List.mem_iff_getElem.mp hy
      rw [List.getElem_take] at e
      rw [tl] at hj
      exact absurd e (List.pairwise_iff_getElem.mp nd j i (by omega) (by omega) hj)
    refine ⟨_, _, rfl, fun b u h => (upd_ne (ne_of_none h hd)).trans (s2 _ _ h), ?_⟩
    rw [upd_same, Rm.putK_new hk, Rm.take_snoc ex, Rm.numK_snoc, tl]
  rintro σ' H' ⟨o2, o3, rfl, sm, ed⟩
  rw [List.length_map, hl, List.take_length] at ed
  walk_at "go"
  exact q d H' sm hd ed
theorem ok_names_in (T : Txt K mg t) : FnOk P w K mg base CX0 1 t.a_names_in t.d_names_in ["form"] (Rm.sp_names_in) := by
  refine T.F_names_in.ok sc_names_in (fun vs H Q E h => ?_) (fun cdv A outer s H vs Q E hr h => ?_)
  · obtain ⟨a, f, rfl, hF, q⟩ := h
    rfl
  obtain ⟨a, f, rfl, hF, q⟩ := h
  refine ⟨_, (pss_cons (ps_if (pt_cmpR op_inT (pe_ix ix_tup (pv 0) pe_int (fun _ _ => rfl)) (pe_glob (v := .ref t.u_MOST_NAMES) (by rfl) T.c_MOST_NAMES rfl) (by with_unfolding_all rfl))
      (pss_one (ps_ret (pe_ix ix_tup (pv 0) pe_int (fun _ _ => rfl))))
      pss_nil)
    (pss_one (ps_ret (pe_ifExp (pt_cmpR op_eq (pe_ix ix_tup (pv 0) pe_int (fun _ _ => rfl)) pe_str (nomark _)) (pe_slice sl_tup (pv 0) (po_some pe_int) po_none) (pe_tup pa_nil))))), ?_⟩
  refine rd_start (σ' := [some _]) rfl ?_
  have sz : (200 : Nat) < sizeLine := by decide
  cases f with
  | hold n =>
    have ha : H a = some (.tup _) := hF
    walk_at "go"
    refine ⟨_, _, _, _, rfl, rfl, SqT.of ha, rfl, ?_⟩
    walk_at "go"
    refine ⟨_, _, _, rfl, rfl, T.k_MOST_NAMES, ?_⟩
    walk_at "go"
    refine Rm.iteB0 (by decide +kernel) ?_
    walk_at "go"
    refine ⟨_, _, _, _, rfl, rfl, SqT.of ha, rfl, ?_⟩
    walk_at "go"
    refine Rm.iteB0 (by decide +kernel) ?_
    walk_at "go"
    refine ⟨Nat.zero_le _, ?_⟩
    intro b hb; generalize eH : L2.upd _ b _ = H1; have s1 := L2.same_of hb eH; have t1 := L2.at_of eH; clear eH
    exact q b H1 s1 t1
  | ring x n =>
    have ha : H a = some (.tup _) := hF
    walk_at "go"
    refine ⟨_, _, _, _, rfl, rfl, SqT.of ha, rfl, ?_⟩
    walk_at "go"
    refine ⟨_, _, _, rfl, rfl, T.k_MOST_NAMES, ?_⟩
    walk_at "go"
    refine Rm.iteB0 (by decide +kernel) ?_
    walk_at "go"
    refine ⟨_, _, _, _, rfl, rfl, SqT.of ha, rfl, ?_⟩
    walk_at "go"
    refine Rm.iteB0 (by decide +kernel) ?_
    walk_at "go"
    refine ⟨Nat.zero_le _, ?_⟩
    intro b hb; generalize eH : L2.upd _ b _ = H1; have s1 := L2.same_of hb eH; have t1 := L2.at_of eH; clear eH
    exact q b H1 s1 t1
  | rise x v n =>
    have ha : H a = some (.tup _) := hF
    walk_at "go"
    refine ⟨_, _, _, _, rfl, rfl, SqT.of ha, rfl, ?_⟩
    walk_at "go"
    refine ⟨_, _, _, rfl, rfl, T.k_MOST_NAMES, ?_⟩
    walk_at "go"
    refine Rm.iteB0 (by decide +kernel) ?_
    walk_at "go"
    refine ⟨_, _, _, _, rfl, rfl, SqT.of ha, rfl, ?_⟩
    walk_at "go"
    refine Rm.iteB0 (by decide +kernel) ?_
    walk_at "go"
    refine ⟨Nat.zero_le _, ?_⟩
    intro b hb; generalize eH : L2.upd _ b _ = H1; have s1 := L2.same_of hb eH; have t1 := L2.at_of eH; clear eH
    exact q b H1 s1 t1
  | row ps =>
    obtain ⟨b, ha, hb⟩ := hF
    walk_at "go"
    refine ⟨_, _, _, _, rfl, rfl, SqT.of ha, rfl, ?_⟩
    walk_at "go"
    refine ⟨_, _, _, rfl, rfl, T.k_MOST_NAMES, ?_⟩
    walk_at "go"
    refine Rm.iteB1 (by decide +kernel) ?_
    walk_at "go"
    refine ⟨_, _, _, _, rfl, rfl, SqT.of ha, rfl, ?_⟩
    exact q b H (Same.refl _) hb
  | side ps =>
    obtain ⟨b, ha, hb⟩ := hF
    walk_at "go"
    refine ⟨_, _, _, _, rfl, rfl, SqT.of ha, rfl, ?_⟩
    walk_at "go"
    refine ⟨_, _, _, rfl, rfl, T.k_MOST_NAMES, ?_⟩
    walk_at "go"
    refine Rm.iteB1 (by decide +kernel) ?_
    walk_at "go"
    refine ⟨_, _, _, _, rfl, rfl, SqT.of ha, rfl, ?_⟩
    exact q b H (Same.refl _) hb
  | again k x =>
    have ha : H a = some (.tup _) := hF
    walk_at "go"
    refine ⟨_, _, _, _, rfl, rfl, SqT.of ha, rfl, ?_⟩
    walk_at "go"
    refine ⟨_, _, _, rfl, rfl, T.k_MOST_NAMES, ?_⟩
    walk_at "go"
    refine Rm.iteB0 (by decide +kernel) ?_
    walk_at "go"
    refine ⟨_, _, _, _, rfl, rfl, SqT.of ha, rfl, ?_⟩
    walk_at "go"
    refine Rm.iteB1 (by decide +kernel) ?_
    walk_at "go"
    refine ⟨a, _, rfl, SqT.of ha, (by show ¬ (HT.sIx 3 0 (some 2) = 0 ∧ HT.sIx 3 3 none = 3); decide), ?_⟩
    intro b hb; generalize eH : L2.upd _ b _ = H1; have s1 := L2.same_of hb eH; have t1 := L2.at_of eH; clear eH
    exact q b H1 s1 t1
theorem ok_inner (T : Txt K mg t) (G_numbers_of : FnOk P w K mg base CX0 1 t.a_numbers_of t.d_numbers_of ["named"] (Rm.sp_numbers_of)) (G_names_in : FnOk P w K mg base CX0 1 t.a_names_in t.d_names_in ["form"] (Rm.sp_names_in)) : FnOk P w K mg base CX0 2 t.a_inner t.d_inner ["book"] (Rm.sp_inner) := by
  refine T.F_inner.ok sc_inner (fun vs H Q E h => ?_) (fun cdv A outer s H vs Q E hr h => ?_)
  · obtain ⟨b, pl, pp, las, pas, ls, ps, rfl, B, W, q⟩ := h
    rfl
  obtain ⟨b, pl, pp, las, pas, ls, ps, rfl, B, W, q⟩ := h
  refine ⟨_, (pss_cons (ps_set (i := 1) sc_inner.nd rfl (.inr rfl) (pe_call (G_numbers_of.mono (by decide)) hr (by rfl) T.m_numbers_of T.F_numbers_of.kp T.B_numbers_of .nil pass0 (pa_cons (pe_ix ix_tup (pv 0) pe_int (fun _ _ => rfl)) pa_nil)))
    (pss_cons (ps_set (i := 2) sc_inner.nd rfl (.inl rfl) (pe_lst pa_nil))
    (pss_cons (ps_for PassesOwn.never rfl (pi_list (pe_ix ix_tup (pv 0) pe_int (fun _ _ => rfl))) (pg_tup rfl (pgs_cons (pg_name (i := 3) sc_inner.nd rfl (.inl rfl)) (pgs_cons (pg_name (i := 4) sc_inner.nd rfl (.inl rfl)) pgs_nil)))
      (pss_one (ps_expr (pe_bm PySem.F.plainAttrs_list PySem.F.slot_list_append PySem.F.type_list_append mt_append (pv 2) (pa_cons (pe_comp (ow := ["other"]) (ci := [1]) rfl (CompScope.of (defScope s_inner) ["book", "numbers", "found", "name", "form"] rfl rfl (by decide +kernel)) (gk_name (by decide)) (pi_tup (pe_call (G_names_in.mono (by decide)) hr (by rfl) T.m_names_in T.F_names_in.kp T.B_names_in .nil pass0 (pa_cons (pv 4) pa_nil))) (fun _ _ _ _ _ => ⟨(pg_name (i := 0) (blk_nd ["book", "numbers", "found", "name", "form"] rfl (by decide +kernel)) rfl (.inl rfl)), pf_nil, (pe_dget (hu_of hr) (pv 1) (pv 0) (fun _ _ => rfl))⟩)) pa_nil)))))
    (pss_one (ps_ret (pv 2)))))), ?_⟩
  refine rd_start (σ' := [some _, none, none, none, none]) rfl ?_
  have sz : (200 : Nat) < sizeLine := by decide
  have p61 := W.p61
  have pa := B.pa.1
  walk_at "go"
  refine ⟨b, _, _, _, rfl, rfl, SqT.of B.t, rfl, ?_⟩
  walk_at "go"
  refine ⟨pp, pas, Rm.nmsOf ps, rfl, B.p, by rw [Rm.nmsOf, List.length_map]; exact pa, fun i a x ea ex => ?_, W.pn, by rw [Rm.nmsOf, List.length_map]; omega, fun d H1 s1 hd ed => ?_⟩
  · unfold Rm.nmsOf at ex
    rw [List.getElem?_map] at ex
    obtain ⟨p, ep, rfl⟩ := Option.map_eq_some_iff.mp ex
    obtain ⟨fb, hb, _⟩ := B.pa.2 i a p ea ep
    exact ⟨_, hb⟩
  walk_at "go"
  refine ⟨Nat.zero_le _, ?_⟩
  intro l hl; generalize eH : L2.upd _ l _ = H2; have s2 := L2.same_of hl eH; have t2 := L2.at_of eH; clear eH
  have nl := Rm.none_of s1 hl
  have s12 := s1.trans s2
  walk_at "go"
  refine ⟨b, _, _, _, rfl, rfl, SqT.of (s12 _ _ B.t), rfl, ?_⟩
  refine ⟨pp, rfl, ⟨_, SqL.of (s12 _ _ B.p)⟩, ?_⟩
  refine for_list (xs := pas.map V.ref) (fun i σ H' => ∃ (as : List Addr) (o3 o4 : Option V), σ = [some (.ref b), some (.ref d), some (.ref l), o3, o4] ∧ Same H1 H' ∧ H' l = some (.lst (as.map V.ref)) ∧ (∀ a ∈ as, H a = none ∧ a ≠ l) ∧ Rm.ListsAt H' as ((ps.take i).map fun p => (Rm.inP ps p.2).map fun j : Nat => (j : Int)))
    ⟨[], _, _, rfl, s2, t2, (fun a h => nomatch h), .nil⟩ ?_ ?_ ?_
  · rintro i σ H' _ ⟨as, o3, o4, rfl, sm, e1, na, la⟩
    exact SqL.of ((s1.trans sm) _ _ B.p)
  · rintro i x σ H' hx ⟨as, o3, o4, rfl, sm, e1, na, la⟩
    obtain ⟨a, p, rfl, hp, fb, hat, hf⟩ := B.pa.at_ref hx
    have hi := (List.getElem?_eq_some_iff.mp hp).1
    have s0 := s1.trans sm
    obtain ⟨wn, w8⟩ := W.f i p hp
    have lal := la.1
    rw [List.length_map, List.length_take] at lal
    refine rd_gT2 (SqT.of (s0 _ _ hat)) ?_
    walk_at "go"
    refine ⟨.inl ⟨rfl, _, SqL.of e1⟩, ?_⟩
    walk_at "go"
    refine ⟨fb, p.2, rfl, Rm.FormAt.same s0 hf, fun c H3 s3 hc => ?_⟩
    refine ⟨c, rfl, ⟨_, SqT.of hc⟩, ?_⟩
    refine comp_tup (xs := p.2.ns.map V.str) (fun j ys H' => ys = ((p.2.ns.take j).map fun x => (Rm.ixOf (Rm.nmsOf ps) x : Int)).map V.int ∧ H3 = H') ⟨rfl, rfl⟩ ?_ ?_ ?_
    · rintro j ys H' _ ⟨rfl, rfl⟩
      exact SqT.of hc
    · rintro j x ys H' hx ⟨rfl, rfl⟩
      rw [List.getElem?_map] at hx
      obtain ⟨y, ey, rfl⟩ := Option.map_eq_some_iff.mp hx
      have hj := (List.getElem?_eq_some_iff.mp ey).1
      obtain ⟨k, hk, ek⟩ := wn y (List.mem_of_getElem? ey)
      refine rd_cap (σ' := [none, some _]) rfl ?_
      walk_at "go"
      refine iteT ?_
      walk_at "go"
      have g : DGet H3 d (.str y) (some (.int (k : Nat))) := by
        have g := DGet.k (k := Sum.inr y) ((sm.trans s3) _ _ ed)
        rw [Rm.numK_val W.pn ek] at g
        exact g
      refine ⟨d, _, rfl, g, ?_⟩
      refine ⟨by rw [List.length_map, List.length_map, List.length_take]; omega, ?_, rfl⟩
      rw [Rm.take_snoc ey, List.map_append, List.map_append, ← Rm.ixOf_at W.pn ek]
      rfl
    rintro ys H' ⟨rfl, rfl⟩
    rw [show (p.2.ns.map V.str).length = p.2.ns.length from List.length_map _, List.take_length]
    refine ⟨by rw [List.length_map, List.length_map]; omega, ?_⟩
    intro p4 hp4; generalize eH : L2.upd _ p4 _ = H4; have s4 := L2.same_of hp4 eH; have t4 := L2.at_of eH; clear eH
    have s34 := s3.trans s4
    walk_at "go"
    refine ⟨l, _, _, rfl, rfl, s34 _ _ e1, by rw [List.length_map]; omega, ?_⟩
    have hne : p4 ≠ l := (ne_of_none (s3 _ _ e1) hp4).symm
    have n4 : H p4 = none := Rm.none_of (s0.trans s3) hp4
    refine ⟨as ++ [p4], _, _, rfl, fun c u h => (upd_ne (ne_of_none h hl)).trans ((sm.trans s34) _ _ h), ?_, fun c hc' => ?_, ?_⟩
    · rw [upd_same, List.map_append]; rfl
    · rcases List.mem_append.mp hc' with e | e
      · exact na c e
      · rw [List.mem_singleton.mp e]; exact ⟨n4, hne⟩
    · rw [Rm.take_snoc hp, List.map_append]
      refine Rm.All2.snoc (Rm.All2.monoM la fun c hc' ks h => (upd_ne (na c hc').2).trans (s34 _ _ h)) ?_
      have eq : List.map (fun j : Nat => (j : Int)) (Rm.inP ps p.2) = p.2.ns.map fun x => (Rm.ixOf (Rm.nmsOf ps) x : Int) := by
        unfold Rm.inP
        rw [List.map_map]
        rfl
      show upd H4 l _ p4 = some (.lst (List.map V.int (List.map (fun j : Nat => (j : Int)) (Rm.inP ps p.2))))
      rw [upd_ne hne, t4, eq]
  rintro σ' H3 ⟨as, o3, o4, rfl, sm, e1, na, la⟩
  rw [List.length_map, pa, List.take_length] at la
  walk_at "go"
  exact q l as H3 (s1.trans sm) nl e1 (fun a ha => (na a ha).1) la
theorem ok_ends (T : Txt K mg t) (G_numbers_of : FnOk P w K mg base CX0 1 t.a_numbers_of t.d_numbers_of ["named"] (Rm.sp_numbers_of)) (G_inner : FnOk P w K mg base CX0 2 t.a_inner t.d_inner ["book"] (Rm.sp_inner)) : FnOk P w K mg base CX0 3 t.a_ends t.d_ends ["book"] (Rm.sp_ends) := by
  refine T.F_ends.ok sc_ends (fun vs H Q E h => ?_) (fun cdv A outer s H vs Q E hr h => ?_)
  · obtain ⟨b, pl, pp, las, pas, ls, ps, rfl, B, W, q⟩ := h
    rfl
  obtain ⟨b, pl, pp, las, pas, ls, ps, rfl, B, W, q⟩ := h
  refine ⟨_, (pss_cons (ps_set (i := 1) sc_ends.nd rfl (.inl rfl) (pe_call (G_numbers_of.mono (by decide)) hr (by rfl) T.m_numbers_of T.F_numbers_of.kp T.B_numbers_of .nil pass0 (pa_cons (pe_ix ix_tup (pv 0) pe_int (fun _ _ => rfl)) pa_nil)))
    (pss_cons (ps_set (i := 2) sc_ends.nd rfl (.inl rfl) (pe_lst pa_nil))
    (pss_cons (ps_for PassesOwn.never rfl (pi_zip (by rfl) T.b_zip (pa_cons (pe_ix ix_tup (pv 0) pe_int (fun _ _ => rfl)) (pa_cons (pe_call (G_inner.mono (by decide)) hr (by rfl) T.m_inner T.F_inner.kp T.B_inner .nil pass0 (pa_cons (pv 0) pa_nil)) pa_nil))) (pg_tup rfl (pgs_cons (pg_name (i := 3) sc_ends.nd rfl (.inl rfl)) (pgs_cons (pg_name (i := 4) sc_ends.nd rfl (.inl rfl)) pgs_nil)))
      (pss_cons (ps_set (i := 5) sc_ends.nd rfl (.inl rfl) (pe_ix ix_tup (pv 3) pe_int (fun _ _ => rfl)))
      (pss_cons (ps_set (i := 6) sc_ends.nd rfl (.inl rfl) pe_dnewK)
      (pss_cons (ps_ifJ (pt_cmpR op_eq (pe_ix ix_tup (pv 5) pe_int (fun _ _ => rfl)) pe_str (nomark _))
        (pss_one (ps_dput (hu_of hr) (pv 6) (pe_dget (hu_of hr) (pv 1) (pe_ix ix_tup (pv 5) pe_int (fun _ _ => rfl)) (fun _ _ => rfl)) (pe_ix ix_tup (pv 5) pe_int (fun _ _ => rfl)) rfl))
        pss_nil)
      (pss_cons (ps_for PassesOwn.never rfl (pi_list (pv 4)) (pg_name (i := 7) sc_ends.nd rfl (.inl rfl))
        (pss_one (ps_expr (pe_bm PySem.F.plainAttrs_dict PySem.F.slot_dict_update PySem.F.type_dict_update mt_update (pv 6) (pa_cons (pe_callTy (call_dictL rfl) (by rfl) T.b_dict bt_dict (pa_cons (pe_ix ix_list (pv 2) (pv 7) (fun _ _ => rfl)) pa_nil)) pa_nil)))))
      (pss_one (ps_expr (pe_bm PySem.F.plainAttrs_list PySem.F.slot_list_append PySem.F.type_list_append mt_append (pv 2) (pa_cons (pe_callB (call_sortedD rfl) (by rfl) T.b_sorted bt_sorted (pa_cons (pe_bm0 PySem.F.plainAttrs_dict PySem.F.slot_dict_items PySem.F.type_dict_items mt_items (pv 6)) pa_nil)) pa_nil)))))))))
    (pss_one (ps_ret (pv 2)))))), ?_⟩
  refine rd_start (σ' := [some _, none, none, none, none, none, none, none]) rfl ?_
  have sz : (200 : Nat) < sizeLine := by decide
  have p61 := W.p61
  have l8 := W.l8
  have pa := B.pa.1
  have la := B.la.1
  walk_at "go"
  refine ⟨b, _, _, _, rfl, rfl, SqT.of B.t, rfl, ?_⟩
  walk_at "go"
  refine ⟨pl, las, Rm.nmsOf ls, rfl, B.l, by rw [Rm.nmsOf, List.length_map]; exact la, fun i a x ea ex => ?_, W.ln, by rw [Rm.nmsOf, List.length_map]; omega, fun d H1 s1 hd ed => ?_⟩
  · unfold Rm.nmsOf at ex
    rw [List.getElem?_map] at ex
    obtain ⟨p, ep, rfl⟩ := Option.map_eq_some_iff.mp ex
    exact ⟨_, B.la.2 i a p ea ep⟩
  walk_at "go"
  refine ⟨Nat.zero_le _, ?_⟩
  intro l hl; generalize eH : L2.upd _ l _ = H2; have s2 := L2.same_of hl eH; have t2 := L2.at_of eH; clear eH
  have nl := Rm.none_of s1 hl
  have s12 := s1.trans s2
  have ndl : d ≠ l := ne_of_none ed hl
  walk_at "go"
  refine ⟨b, _, _, _, rfl, rfl, SqT.of (s12 _ _ B.t), rfl, ?_⟩
  walk_at "go"
  refine ⟨b, pl, pp, las, pas, ls, ps, rfl, B.same s12, W, fun li ias H3 s3 hli eli nia lia => ?_⟩
  walk_at "go"
  have s13 := s12.trans s3
  have lial := lia.1
  rw [List.length_map] at lial
  have nli : li ≠ l := fun z => by rw [z, t2] at hli; cases hli
  refine ⟨pp, li, _, _, rfl, SqL.of (s13 _ _ B.p), SqL.of eli, ?_⟩
  have npl : ∀ {c u}, H c = some u → c ≠ l := fun h => ne_of_none h nl
  have t3 : H3 l = some (.lst []) := s3 _ _ t2
  refine for_zip (xs := pas.map V.ref) (ys := ias.map V.ref) (fun i σ H' => ∃ (as : List Addr) (E : List (List (Int × Int))) (o3 o4 o5 o6 o7 : Option V), σ = [some (.ref b), some (.ref d), some (.ref l), o3, o4, o5, o6, o7] ∧ (∀ c u, c ≠ l → H3 c = some u → H' c = some u) ∧ H' l = some (.lst (as.map V.ref)) ∧ (∀ a ∈ as, H a = none ∧ a ≠ l) ∧ E.length = i ∧ Rm.EndsAt H' as E ∧ Rm.EndOk ls ps E)
    (by rw [List.length_map, List.length_map]; omega) ⟨[], [], _, _, _, _, _, rfl, fun c u _ h => h, t3, (fun a h => nomatch h), rfl, .nil, fun i p e _ h => by simp at h⟩ ?_ ?_ ?_
  · rintro i σ H' _ ⟨as, E, o3, o4, o5, o6, o7, rfl, sm, e1, na, lE, aE, oE⟩
    exact ⟨SqL.of (sm _ _ (npl B.p) (s13 _ _ B.p)), SqL.of (sm _ _ nli eli)⟩
  · rintro i u v σ H' P H4 hu hv ⟨as, E, o3, o4, o5, o6, o7, rfl, sm, e1, na, lE, aE, oE⟩ sP tP
    obtain ⟨a, p, rfl, hp, fb, hat, hf⟩ := B.pa.at_ref hu
    obtain ⟨ia, is, rfl, his, hia⟩ := lia.at_ref hv
    rw [List.getElem?_map, hp] at his
    cases his
    have hi := (List.getElem?_eq_some_iff.mp hp).1
    have iam : ia ∈ ias := by
      rw [List.getElem?_map] at hv
      obtain ⟨a', ea, e'⟩ := Option.map_eq_some_iff.mp hv
      injection e' with e'
      subst e'
      exact List.mem_of_getElem? ea
    have nial : ia ≠ l := fun z => by have := nia ia iam; rw [z, t2] at this; cases this
    have k4 : ∀ c u, c ≠ l → H3 c = some u → H4 c = some u := fun c u hc h => sP _ _ (sm _ _ hc h)
    have hat4 : H4 a = _ := k4 _ _ (npl hat) (s13 _ _ hat)
    have hia4 : H4 ia = _ := k4 _ _ nial hia
    have ed4 : H4 d = _ := k4 _ _ ndl (s3 _ _ (s2 _ _ ed))
    have e14 := sP _ _ e1
    have hf4 : Rm.FormAt H4 fb p.2 := by
      have h0 := Rm.FormAt.same s13 hf
      generalize p.2 = f at h0
      have np : ∀ {c : Addr} {xs : List V}, H3 c = some (.tup xs) → c ≠ l := fun h => ne_of h t3 (fun z => by cases z)
      cases f with
      | row ps => obtain ⟨c, h1, h2⟩ := h0; exact ⟨c, k4 _ _ (np h1) h1, k4 _ _ (np h2) h2⟩
      | side ps => obtain ⟨c, h1, h2⟩ := h0; exact ⟨c, k4 _ _ (np h1) h1, k4 _ _ (np h2) h2⟩
      | hold n => exact k4 _ _ (np h0) h0
      | ring x n => exact k4 _ _ (np h0) h0
      | rise x g n => exact k4 _ _ (np h0) h0
      | again x n => exact k4 _ _ (np h0) h0
    have w8 := (W.f i p hp).2
    have wr := fun x h n (e : p.2 = .rise x h n) => W.r i p.1 x h n (by rw [hp, ← e])
    have inl := fun j => W.inP_lt (j := j) hp
    have bnd := Rm.ends_bnd W (by omega) oE
    have elen : ∀ (j : Nat) (e : List (Int × Int)), E[j]? = some e → e.length ≤ 8 := fun j e h => Rm.ends_len W (by omega) oE h
    refine rd_gT2 (SqT.of tP) ?_
    walk_at "go"
    refine ⟨a, _, _, _, rfl, rfl, SqT.of hat4, rfl, ?_⟩
    walk_at "go"
    intro dl hdl; generalize eH : L2.upd _ dl _ = H5; have s5 := L2.same_of hdl eH; have t5 := L2.at_of eH; clear eH
    walk_at "go"
    refine ⟨fun σ' H6 => σ' = [some (.ref b), some (.ref d), some (.ref l), some (.ref a), some (.ref ia), some (.ref fb), some (.ref dl), o7] ∧ Same H4 H6 ∧ H6 dl = some (.dK ((Rm.kv0 ls p.2).map iiK)), ?_, ?_⟩
    rotate_left
    · by_cases hr' : ∃ x h n, p.2 = .rise x h n
      · obtain ⟨x, h, n, e⟩ := hr'
        rw [e] at hf4
        have hf5 : H5 fb = some (.tup [.str "raise", .str x, .int h, .int n]) := s5 _ _ hf4
        obtain ⟨j, hj⟩ := wr x h n e
        walk_at "go"
        refine ⟨fb, _, _, _, rfl, rfl, SqT.of hf5, rfl, ?_⟩
        walk_at "go"
        refine Rm.iteB1 (by decide +kernel) ?_
        walk_at "go"
        refine ⟨fb, _, _, _, rfl, rfl, SqT.of hf5, rfl, ?_⟩
        walk_at "go"
        refine ⟨fb, _, _, _, rfl, rfl, SqT.of hf5, rfl, ?_⟩
        have g : DGet H5 d (.str x) (some (.int (j : Nat))) := by
          have g := DGet.k (k := Sum.inr x) (s5 _ _ ed4)
          rw [Rm.numK_val W.ln hj] at g
          exact g
        refine ⟨d, _, rfl, g, ?_⟩
        refine ⟨dl, _, rfl, DPut.k (k := Sum.inl (j : Int)) t5 (by show 0 < sizeLine; omega), ?_⟩
        refine ⟨rfl, fun c u h => (upd_ne (ne_of_none h hdl)).trans (s5 _ _ h), ?_⟩
        rw [upd_same, e]
        show _ = some (HO.dK [iiK ((Rm.ixOf (Rm.nmsOf ls) x : Nat), h)])
        rw [Rm.ixOf_at W.ln hj]
        rfl
      · obtain ⟨k, xs, hk, dk⟩ := Rm.kind_not hf4 fun x v n e => hr' ⟨x, v, n, e⟩
        walk_at "go"
        refine ⟨fb, _, _, _, rfl, rfl, SqT.of (s5 _ _ hk), Rm.at0, ?_⟩
        walk_at "go"
        refine Rm.iteB0 dk ?_
        walk_at "go"
        refine ⟨rfl, s5, ?_⟩
        rw [Rm.kv0_not fun x v n e => hr' ⟨x, v, n, e⟩]
        exact t5
    rintro σ' H6 ⟨rfl, s6, t6⟩
    walk_at "go"
    have hia6 := s6 _ _ hia4
    have nlist : ∀ {c u}, H4 c = some u → c ≠ dl := fun h => ne_of_none h hdl
    refine ⟨ia, rfl, ⟨_, SqL.of hia6⟩, ?_⟩
    refine for_list (xs := ((Rm.inP ps p.2).map fun j : Nat => (j : Int)).map V.int) (fun t σ H7 => ∃ (kvs : List (Int × Int)) (o7 : Option V), σ = [some (.ref b), some (.ref d), some (.ref l), some (.ref a), some (.ref ia), some (.ref fb), some (.ref dl), o7] ∧ Same H4 H7 ∧ H7 dl = some (.dK (kvs.map iiK)) ∧ (kvs.map (·.1)).Nodup ∧ ∀ k v, (k, v) ∈ kvs ↔ Rm.LastIn E ((Rm.inP ps p.2).take t) k v ∨ (k, v) ∈ Rm.kv0 ls p.2)
      ⟨_, _, rfl, s6, t6, Rm.kv0_nd _, fun k v => ⟨.inr, fun h => h.elim (fun ⟨pre, j, post, e, _⟩ => by cases pre <;> simp at e) id⟩⟩ ?_ ?_ ?_
    · rintro t σ H7 _ ⟨kvs, o7, rfl, s7, t7, nd7, m7⟩
      exact SqL.of (s7 _ _ hia4)
    · rintro t x σ H7 hx ⟨kvs, o7, rfl, s7, t7, nd7, m7⟩
      rw [List.getElem?_map, List.getElem?_map] at hx
      obtain ⟨jj, hjj, rfl⟩ := Option.map_eq_some_iff.mp hx
      obtain ⟨j, hj, rfl⟩ := Option.map_eq_some_iff.mp hjj
      have jlt := inl j (List.mem_of_getElem? hj)
      have e0 : Rm.kv0 ls p.2 = [] := by
        rcases Rm.kv0_in (ps := ps) (ls := ls) p.2 with z | z
        · rw [z] at hj; simp at hj
        · exact z
      rw [e0] at m7
      have hE : E[j]? = some (E.getD j []) := by rw [List.getD_eq_getElem?_getD, List.getElem?_eq_getElem (by omega)]; rfl
      obtain ⟨aj, haj, bs, hbs, prs⟩ := aE.get hE
      have ndE : ((E.getD j []).map (·.1)).Nodup := ((oE j _ _ (List.getElem?_eq_getElem (by omega)) hE).1).imp fun h => Int.ne_of_lt h
      have e8 := elen j _ hE
      have k8 : kvs.length ≤ 8 := by
        have z := Rm.nodup_len (n := ls.length) nd7 fun k hk => by
          obtain ⟨q', hq', rfl⟩ := List.mem_map.mp hk
          rcases (m7 q'.1 q'.2).mp hq' with ⟨pre, i', post, _, hin, _⟩ | hin
          · exact bnd i' _ hin
          · exact nomatch hin
        rw [List.length_map] at z
        omega
      walk_at "go"
      refine ⟨.inr (.inr (.inl ⟨rfl, .inl ⟨_, t7⟩⟩)), ?_⟩
      walk_at "go"
      refine ⟨l, _, _, _, rfl, rfl, SqL.of (s7 _ _ e14), Rm.at_refI (i := (j : Int)) (by omega) haj, ?_⟩
      walk_at "go"
      refine ⟨aj, bs, E.getD j [], rfl, s7 _ _ (sP _ _ hbs), prs.1, fun i' c q' h1 h2 => s7 _ _ (sP _ _ (prs.2 i' c q' h1 h2)), ?_⟩
      intro d2 hd2; generalize eH : L2.upd _ d2 _ = H8; have s8 := L2.same_of hd2 eH; have t8 := L2.at_of eH; clear eH
      walk_at "go"
      rw [show ([] : List (Key × V)) = ([] : List (Int × Int)).map iiK from rfl, Rm.mergeK_iiK, Rm.mergeI_nil ndE] at t8
      have n2 : dl ≠ d2 := ne_of_none t7 hd2
      refine ⟨dl, d2, _, _, rfl, rfl, s8 _ _ t7, t8, n2, by rw [List.length_map, List.length_map]; omega, ?_⟩
      rw [Rm.mergeK_iiK]
      obtain ⟨mn, mm⟩ := Rm.mergeI_ok nd7 ndE
      refine ⟨Rm.mergeI kvs (E.getD j []), _, rfl, fun c u h => (upd_ne (nlist h)).trans (s8 _ _ (s7 _ _ h)), upd_same, mn, fun k v => ?_⟩
      rw [mm, m7, e0, Rm.take_snoc hj, Rm.last_snoc]
      constructor
      · rintro (h | ⟨h1, h | h⟩)
        · exact .inl (.inl h)
        · exact .inl (.inr ⟨h1, h⟩)
        · exact nomatch h
      · rintro ((h | ⟨h1, h⟩) | h)
        · exact .inl h
        · exact .inr ⟨h1, .inl h⟩
        · exact nomatch h
    rintro σ' H7 ⟨kvs, o7', rfl, s7, t7, nd7, m7⟩
    rw [List.length_map, List.length_map, List.take_length] at m7
    have k8 : kvs.length ≤ 8 := by
      have z := Rm.nodup_len (n := ls.length) nd7 fun k hk => by
        obtain ⟨q', hq', rfl⟩ := List.mem_map.mp hk
        rcases (m7 q'.1 q'.2).mp hq' with ⟨pre, i', post, _, hin, _⟩ | hin
        · exact bnd i' _ hin
        · obtain ⟨x, n, e, ek⟩ := Rm.mem_kv0.mp hin
          obtain ⟨j, hj⟩ := wr x _ n e
          have h3 := Rm.ixOf_lt (List.mem_of_getElem? hj)
          have h4 : (Rm.nmsOf ls).length = ls.length := List.length_map _
          rw [ek]
          omega
      rw [List.length_map] at z
      omega
    walk_at "go"
    refine ⟨.inl ⟨rfl, _, SqL.of (s7 _ _ e14)⟩, ?_⟩
    walk_at "go"
    refine ⟨.inr (.inr (.inl ⟨rfl, .inl ⟨_, t7⟩⟩)), dl, _, rfl, rfl, t7, ?_⟩
    intro vw hvw; generalize eH : L2.upd _ vw _ = H8; have s8 := L2.same_of hvw eH; have t8 := L2.at_of eH; clear eH
    walk_at "go"
    refine ⟨vw, dl, kvs, rfl, t8, s8 _ _ t7, by omega, fun r cs ms H9 s9 hr9 e9 n9 perm pw len tup => ?_⟩
    walk_at "go"
    have asl := aE.1
    refine ⟨l, _, _, rfl, rfl, s9 _ _ (s8 _ _ (s7 _ _ e14)), by rw [List.length_map]; omega, ?_⟩
    have s49 := s7.trans (s8.trans s9)
    have nrl : r ≠ l := (ne_of_none (s8 _ _ (s7 _ _ e14)) hr9).symm
    have nr : H r = none := by
      cases z : H r with
      | none => rfl
      | some u => rw [s8 _ _ (s7 _ _ (k4 _ _ nrl (s13 _ _ z)))] at hr9; cases hr9
    have ntl : ∀ {c : Addr} {xs : List V}, H9 c = some (.tup xs) → c ≠ l := fun h => ne_of h (s49 _ _ e14) (fun z => by cases z)
    refine ⟨as ++ [r], E ++ [ms], _, _, _, _, _, rfl, fun c u hc h => (upd_ne hc).trans (s49 _ _ (k4 _ _ hc h)), ?_, fun c hc => ?_, by rw [List.length_append, lE]; rfl, ?_, ?_⟩
    · rw [upd_same, List.map_append]; rfl
    · rcases List.mem_append.mp hc with z | z
      · exact na c z
      · rw [List.mem_singleton.mp z]; exact ⟨nr, nrl⟩
    · refine Rm.All2.snoc (Rm.All2.monoM aE fun c hc e h => ?_) ?_
      · obtain ⟨bs, hbs, prs⟩ := h
        refine ⟨bs, (upd_ne (na c hc).2).trans (s49 _ _ (sP _ _ hbs)), Rm.All2.mono prs fun c' q' h' => ?_⟩
        have h9 := s49 _ _ (sP _ _ h')
        exact (upd_ne (ntl h9)).trans h9
      · exact ⟨cs, (upd_ne nrl).trans e9, len, fun i' c q' h1 h2 => (upd_ne (ntl (tup i' c q' h1 h2))).trans (tup i' c q' h1 h2)⟩
    · refine Rm.EndOk.snoc W oE (p := p) (by rw [lE]; exact hp) ?_ fun k v => ?_
      · exact Rm.sorted_lt (perm.map _) nd7 pw
      · rw [perm.mem_iff, m7]
        exact ⟨fun h => h.imp id Rm.mem_kv0.mp, fun h => h.imp id Rm.mem_kv0.mpr⟩
  rintro σ' H' ⟨as, E, o3, o4, o5, o6, o7, rfl, sm, e1, na, lE, aE, oE⟩
  rw [List.length_map] at lE
  walk_at "go"
  exact q l as E H' (fun c u h => sm _ _ (npl h) (s13 _ _ h)) nl e1 (fun a ha => (na a ha).1) (by omega) aE oE
theorem ok_moved (T : Txt K mg t) (G_ends : FnOk P w K mg base CX0 3 t.a_ends t.d_ends ["book"] (Rm.sp_ends)) : FnOk P w K mg base CX0 4 t.a_moved t.d_moved ["book"] (Rm.sp_moved) := by
  refine T.F_moved.ok sc_moved (fun vs H Q E h => ?_) (fun cdv A outer s H vs Q E hr h => ?_)
  · obtain ⟨b, pl, pp, las, pas, ls, ps, rfl, B, W, q⟩ := h
    rfl
  obtain ⟨b, pl, pp, las, pas, ls, ps, rfl, B, W, q⟩ := h
  refine ⟨_, (pss_cons (ps_set (i := 1) sc_moved.nd rfl (.inl rfl) (pe_lst pa_nil))
    (pss_cons (ps_for PassesOwn.never rfl (pi_list (pe_call (G_ends.mono (by decide)) hr (by rfl) T.m_ends T.F_ends.kp T.B_ends .nil pass0 (pa_cons (pv 0) pa_nil))) (pg_name (i := 2) sc_moved.nd rfl (.inl rfl))
      (pss_one (ps_expr (pe_bm PySem.F.plainAttrs_list PySem.F.slot_list_append PySem.F.type_list_append mt_append (pv 1) (pa_cons (pe_comp (ow := ["limb", "height"]) (ci := []) rfl (CompScope.of (defScope s_moved) ["book", "found", "left"] rfl rfl (by decide +kernel)) (gk_tup2 (by decide) (by decide)) (pi_list (pv 2)) (fun _ _ _ _ _ => ⟨(pg_tup rfl (pgs_cons (pg_name (i := 0) (blk_nd ["book", "found", "left"] rfl (by decide +kernel)) rfl (.inl rfl)) (pgs_cons (pg_name (i := 1) (blk_nd ["book", "found", "left"] rfl (by decide +kernel)) rfl (.inl rfl)) pgs_nil))), pf_nil, (pv 0)⟩)) pa_nil)))))
    (pss_one (ps_ret (pv 1))))), ?_⟩
  refine rd_start (σ' := [some _, none, none]) rfl ?_
  have sz : (200 : Nat) < sizeLine := by decide
  have p61 := W.p61
  walk_at "go"
  refine ⟨Nat.zero_le _, ?_⟩
  intro l hl; generalize eH : L2.upd _ l _ = H1; have s1 := L2.same_of hl eH; have t1 := L2.at_of eH; clear eH
  walk_at "go"
  refine ⟨b, pl, pp, las, pas, ls, ps, rfl, B.same s1, W, fun e as E H2 s2 he ee ne lE aE oE => ?_⟩
  have aE1 := aE.1
  have s12 := s1.trans s2
  have l2 : H2 l = some (.lst []) := s2 _ _ t1
  have nle : l ≠ e := fun z => by rw [z, he] at t1; cases t1
  refine ⟨e, rfl, ⟨_, SqL.of ee⟩, ?_⟩
  refine for_list (xs := as.map V.ref) (fun i σ H' => ∃ (cs : List Addr) (o2 : Option V), σ = [some (.ref b), some (.ref l), o2] ∧ (∀ c u, c ≠ l → H2 c = some u → H' c = some u) ∧ H' l = some (.lst (cs.map V.ref)) ∧ (∀ c ∈ cs, H1 c = none ∧ c ≠ l) ∧ Rm.ListsAt H' cs ((E.take i).map fun e => e.map (·.1)))
    ⟨[], _, rfl, fun c u _ h => h, l2, (fun c h => nomatch h), .nil⟩ ?_ ?_ ?_
  · rintro i σ H' _ ⟨cs, o2, rfl, sm, e1, na, la⟩
    exact SqL.of (sm _ _ nle.symm ee)
  · rintro i x σ H' hx ⟨cs, o2, rfl, sm, e1, na, la⟩
    obtain ⟨a, ev, rfl, hev, bs, hbs, prs⟩ := aE.at_ref hx
    have hi := (List.getElem?_eq_some_iff.mp hev).1
    have lal := la.1
    rw [List.length_map, List.length_take] at lal
    have am : a ∈ as := by
      rw [List.getElem?_map] at hx
      obtain ⟨a', ea, e'⟩ := Option.map_eq_some_iff.mp hx
      injection e' with e'
      subst e'
      exact List.mem_of_getElem? ea
    have nal : a ≠ l := fun z => by have := ne a am; rw [z, t1] at this; cases this
    have hb' : H' a = some (.lst (bs.map V.ref)) := sm _ _ nal hbs
    have evl := (oE i _ ev (List.getElem?_eq_getElem (by omega)) hev).1
    have ev100 := Rm.ends_len W (by omega) oE hev
    walk_at "go"
    refine ⟨.inl ⟨rfl, _, SqL.of e1⟩, ?_⟩
    walk_at "go"
    refine ⟨a, rfl, ⟨_, SqL.of hb'⟩, ?_⟩
    refine comp_list (xs := bs.map V.ref) (fun j ys H'' => ys = ((ev.take j).map (·.1)).map V.int ∧ H' = H'') ⟨rfl, rfl⟩ ?_ ?_ ?_
    · rintro j ys H'' _ ⟨rfl, rfl⟩
      exact SqL.of hb'
    · rintro j x ys H'' hx2 ⟨rfl, rfl⟩
      obtain ⟨c, kv, rfl, hkv, ht⟩ := prs.at_ref hx2
      have hj := (List.getElem?_eq_some_iff.mp hkv).1
      have ncl : c ≠ l := fun z => by rw [z, l2] at ht; cases ht
      refine rd_cap (σ' := [none, none]) rfl ?_
      refine rd_gT2 (SqT.of (sm _ _ ncl ht)) ?_
      walk_at "go"
      refine iteT ?_
      walk_at "go"
      refine ⟨by rw [List.length_map, List.length_map, List.length_take]; omega, ?_, rfl⟩
      rw [Rm.take_snoc hkv, List.map_append, List.map_append]
      rfl
    rintro ys H'' ⟨rfl, rfl⟩
    rw [show (bs.map V.ref).length = ev.length by rw [List.length_map]; exact prs.1, List.take_length]
    refine ⟨by rw [List.length_map, List.length_map]; omega, ?_⟩
    intro p4 hp4; generalize eH : L2.upd _ p4 _ = H4; have s4 := L2.same_of hp4 eH; have t4 := L2.at_of eH; clear eH
    walk_at "go"
    refine ⟨l, _, _, rfl, rfl, s4 _ _ e1, by rw [List.length_map]; omega, ?_⟩
    have hne : p4 ≠ l := (ne_of_none e1 hp4).symm
    have n4 : H1 p4 = none := by
      cases z : H1 p4 with
      | none => rfl
      | some u => rw [sm _ _ hne (s2 _ _ z)] at hp4; cases hp4
    refine ⟨cs ++ [p4], _, rfl, fun c u hc h => (upd_ne hc).trans (s4 _ _ (sm _ _ hc h)), ?_, fun c hc => ?_, ?_⟩
    · rw [upd_same, List.map_append]; rfl
    · rcases List.mem_append.mp hc with z | z
      · exact na c z
      · rw [List.mem_singleton.mp z]; exact ⟨n4, hne⟩
    · rw [Rm.take_snoc hev, List.map_append]
      exact Rm.All2.snoc (Rm.All2.monoM la fun c hc ks h => (upd_ne (na c hc).2).trans (s4 _ _ h)) ((upd_ne hne).trans t4)
  rintro σ' H3 ⟨cs, o2, rfl, sm, e1, na, la⟩
  rw [List.length_map, aE1, List.take_length] at la
  walk_at "go"
  refine q l cs (E.map fun e => e.map (·.1)) H3 (fun c u h => sm _ _ (ne_of_none h hl) (s12 _ _ h)) hl e1 (fun c hc => Rm.none_of s1 (na c hc).1) (by rw [List.length_map]; exact lE) la (Rm.mov_of lE oE)
theorem ok_check_side (T : Txt K mg t) : FnOk P w K mg base CX0 1 t.a_check_side t.d_check_side ["row", "moves", "limbs"] (Rm.sp_check_side) := by
  refine T.F_check_side.ok sc_check_side (fun vs H Q E h => ?_) (fun cdv A outer s H vs Q E hr h => ?_)
  · obtain ⟨r, l, ll, as, las, M, rfl, el, la, ne, M8, ell, one, q⟩ := h
    rfl
  obtain ⟨r, l, ll, as, las, M, rfl, el, la, ne, M8, ell, one, q⟩ := h
  refine ⟨_, (pss_cons (ps_if (pt_cmpR (op_inE hr.units) (pe_lst pa_nil) (pv 1) (by with_unfolding_all rfl))
      (pss_one ps_never)
      pss_nil)
    (pss_one (ps_for PassesOwn.never rfl (pi_enum (by rfl) T.b_enumerate (pa_cons (pv 2) pa_nil)) (pg_tup rfl (pgs_cons (pg_name (i := 3) sc_check_side.nd rfl (.inr rfl)) (pgs_cons (pg_name (i := 4) sc_check_side.nd rfl (.inl rfl)) pgs_nil)))
      (pss_one (ps_if (pt_cmpR op_gt (pe_callB call_len (by rfl) T.b_len bt_len (pa_cons (pe_comp (ow := ["move"]) (ci := [3]) rfl (CompScope.of (defScope s_check_side) ["row", "moves", "limbs", "number", "limb"] rfl rfl (by decide +kernel)) (gk_name (by decide)) (pi_list (pv 1)) (fun _ _ _ _ _ => ⟨(pg_name (i := 0) (blk_nd ["row", "moves", "limbs", "number", "limb"] rfl (by decide +kernel)) rfl (.inl rfl)), (pf_one (pt_cmpR (op_in_seqK (K := K) rfl) (pv 1) (pv 0) (by with_unfolding_all rfl))), pe_bl⟩)) pa_nil)) pe_int (nomark _))
        (pss_one ps_never)
        pss_nil))))), ?_⟩
  refine rd_start (σ' := [some _, some _, some _, none, none]) rfl ?_
  have sz : (200 : Nat) < sizeLine := by decide
  have lal := la.1
  walk_at "go"
  refine ⟨Nat.zero_le _, ?_⟩
  intro p0 hp0; generalize eH : L2.upd _ p0 _ = H0; have s0 := L2.same_of hp0 eH; have t0 := L2.at_of eH; clear eH
  walk_at "go"
  refine ⟨p0, l, as, M, rfl, rfl, t0, s0 _ _ el, lal, fun i b ks e1 e2 => s0 _ _ (la.2 i b ks e1 e2), ?_⟩
  walk_at "go"
  refine Rm.iteB0 (Rm.any_empty ne) ?_
  walk_at "go"
  refine ⟨ll, _, rfl, SqL.of (s0 _ _ ell), ?_⟩
  refine for_enum (xs := las.map V.ref) (fun i σ H' => ∃ o3 o4 : Option V, σ = [some (.int r), some (.ref l), some (.ref ll), o3, o4] ∧ Same H H') ⟨_, _, rfl, s0⟩ ?_ ?_ ?_
  · rintro i σ H' _ ⟨o3, o4, rfl, sm⟩
    exact SqL.of (sm _ _ ell)
  · rintro i v σ H' P H1 hx ⟨o3, o4, rfl, sm⟩ sP tP
    have s1 := sm.trans sP
    refine rd_gT2 (SqT.of tP) ?_
    walk_at "go"
    refine ⟨l, rfl, ⟨_, SqL.of (s1 _ _ el)⟩, ?_⟩
    refine comp_list (xs := as.map V.ref) (fun j ys H'' => ys.length = ((M.take j).filter fun ks => decide ((i : Int) ∈ ks)).length ∧ H1 = H'') ⟨rfl, rfl⟩ ?_ ?_ ?_
    · rintro j ys H'' _ ⟨_, rfl⟩
      exact SqL.of (s1 _ _ el)
    · rintro j x ys H'' hx2 ⟨hy, rfl⟩
      obtain ⟨a, ks, rfl, hks, ha⟩ := la.at_ref hx2
      refine rd_cap (σ' := [none, some _]) rfl ?_
      walk_at "go"
      refine ⟨a, _, rfl, .inl (SqL.of (s1 _ _ ha)), rfl, Rm.flats ks, ?_⟩
      rw [Rm.inI]
      walk_at "go"
      have hle : ((M.take j).filter fun ks => decide ((i : Int) ∈ ks)).length ≤ 8 := Nat.le_trans (List.length_filter_le _ _) (Nat.le_trans (List.length_take_le' _ _) M8)
      refine iteD (fun d => ?_) (fun d => ?_)
      · walk_at "go"
        refine ⟨by omega, ?_, rfl⟩
        rw [Rm.take_snoc hks, List.filter_append, List.filter_cons, if_pos (decide_eq_true d), List.length_append, List.length_append, hy]
        rfl
      · refine ⟨?_, rfl⟩
        rw [Rm.take_snoc hks, List.filter_append, List.filter_cons, if_neg (by simpa using d), List.length_append, hy]
        rfl
    rintro ys H'' ⟨hy, rfl⟩
    rw [List.length_map, lal, List.take_length] at hy
    have o1 := one (i : Int)
    refine ⟨by omega, ?_⟩
    intro p2 hp2; generalize eH : L2.upd _ p2 _ = H2; have s2 := L2.same_of hp2 eH; have t2 := L2.at_of eH; clear eH
    walk_at "go"
    refine ⟨_, _, rfl, .inl ⟨_, SqL.of t2, rfl⟩, ?_⟩
    walk_at "go"
    refine iteD (fun d => ?_) (fun d => ?_)
    · exfalso
      omega
    · walk_at "go"
      exact ⟨_, _, rfl, s1.trans s2⟩
  rintro σ' H' ⟨o3, o4, rfl, sm⟩
  exact q H' sm
theorem ok_length_of (T : Txt K mg t) : FnOk P w K mg base CX0 1 t.a_length_of t.d_length_of ["form", "inside"] (Rm.sp_length_of) := by
  refine T.F_length_of.ok sc_length_of (fun vs H Q E h => ?_) (fun cdv A outer s H vs Q E hr h => ?_)
  · obtain ⟨a, l, f, gs, rfl, hF, el, pre, q⟩ := h
    rfl
  obtain ⟨a, l, f, gs, rfl, hF, el, pre, q⟩ := h
  refine ⟨_, (pss_cons (ps_if (pt_cmpR op_eq (pe_ix ix_tup (pv 0) pe_int (fun _ _ => rfl)) pe_str (nomark _))
      (pss_one (ps_ret (pe_callB (call_sumL rfl) (by rfl) T.b_sum bt_sum (pa_cons (pv 1) pa_nil))))
      pss_nil)
    (pss_cons (ps_if (pt_cmpR op_eq (pe_ix ix_tup (pv 0) pe_int (fun _ _ => rfl)) pe_str (nomark _))
      (pss_one (ps_ret (pe_callB (call_maxL rfl) (by rfl) T.b_max bt_max (pa_cons (pv 1) pa_nil))))
      pss_nil)
    (pss_cons (ps_if (pt_cmpR op_eq (pe_ix ix_tup (pv 0) pe_int (fun _ _ => rfl)) pe_str (nomark _))
      (pss_one (ps_ret (pe_op op_mulB (pe_ix ix_tup (pv 0) pe_int (fun _ _ => rfl)) (pe_ix ix_list (pv 1) pe_int (fun _ _ => rfl)))))
      pss_nil)
    (pss_one (ps_ret (pe_ix ix_tup (pv 0) (pe_un un_neg pe_int) (fun _ _ => rfl))))))), ?_⟩
  refine rd_start (σ' := [some _, some _]) rfl ?_
  have sz : (200 : Nat) < sizeLine := by decide
  cases f with
  | hold n =>
    have ha : H a = some (.tup _) := hF
    walk_at "go"
    refine ⟨_, _, _, _, rfl, rfl, SqT.of ha, rfl, ?_⟩
    walk_at "go"
    refine Rm.iteB0 (by decide +kernel) ?_
    walk_at "go"
    refine ⟨_, _, _, _, rfl, rfl, SqT.of ha, rfl, ?_⟩
    walk_at "go"
    refine Rm.iteB0 (by decide +kernel) ?_
    walk_at "go"
    refine ⟨_, _, _, _, rfl, rfl, SqT.of ha, rfl, ?_⟩
    walk_at "go"
    refine Rm.iteB0 (by decide +kernel) ?_
    walk_at "go"
    refine ⟨_, _, _, _, rfl, rfl, SqT.of ha, rfl, ?_⟩
    exact q _ rfl
  | ring x n =>
    have ha : H a = some (.tup _) := hF
    walk_at "go"
    refine ⟨_, _, _, _, rfl, rfl, SqT.of ha, rfl, ?_⟩
    walk_at "go"
    refine Rm.iteB0 (by decide +kernel) ?_
    walk_at "go"
    refine ⟨_, _, _, _, rfl, rfl, SqT.of ha, rfl, ?_⟩
    walk_at "go"
    refine Rm.iteB0 (by decide +kernel) ?_
    walk_at "go"
    refine ⟨_, _, _, _, rfl, rfl, SqT.of ha, rfl, ?_⟩
    walk_at "go"
    refine Rm.iteB0 (by decide +kernel) ?_
    walk_at "go"
    refine ⟨_, _, _, _, rfl, rfl, SqT.of ha, rfl, ?_⟩
    exact q _ rfl
  | rise x v n =>
    have ha : H a = some (.tup _) := hF
    walk_at "go"
    refine ⟨_, _, _, _, rfl, rfl, SqT.of ha, rfl, ?_⟩
    walk_at "go"
    refine Rm.iteB0 (by decide +kernel) ?_
    walk_at "go"
    refine ⟨_, _, _, _, rfl, rfl, SqT.of ha, rfl, ?_⟩
    walk_at "go"
    refine Rm.iteB0 (by decide +kernel) ?_
    walk_at "go"
    refine ⟨_, _, _, _, rfl, rfl, SqT.of ha, rfl, ?_⟩
    walk_at "go"
    refine Rm.iteB0 (by decide +kernel) ?_
    walk_at "go"
    refine ⟨_, _, _, _, rfl, rfl, SqT.of ha, rfl, ?_⟩
    exact q _ rfl
  | row ps =>
    obtain ⟨b, ha, hb⟩ := hF
    walk_at "go"
    refine ⟨_, _, _, _, rfl, rfl, SqT.of ha, rfl, ?_⟩
    walk_at "go"
    refine Rm.iteB1 (by decide +kernel) ?_
    walk_at "go"
    refine ⟨l, gs, rfl, SqL.of el, ?_⟩
    exact q _ rfl
  | side ps =>
    obtain ⟨b, ha, hb⟩ := hF
    walk_at "go"
    refine ⟨_, _, _, _, rfl, rfl, SqT.of ha, rfl, ?_⟩
    walk_at "go"
    refine Rm.iteB0 (by decide +kernel) ?_
    walk_at "go"
    refine ⟨_, _, _, _, rfl, rfl, SqT.of ha, rfl, ?_⟩
    walk_at "go"
    refine Rm.iteB1 (by decide +kernel) ?_
    walk_at "go"
    refine ⟨l, gs, rfl, SqL.of el, List.length_pos_iff.mpr pre, fun g h1 h2 => ?_⟩
    exact q g ⟨h1, h2⟩
  | again k x =>
    have ha : H a = some (.tup _) := hF
    obtain ⟨y, r, rfl, k1, k2, y1, y2⟩ := pre
    walk_at "go"
    refine ⟨_, _, _, _, rfl, rfl, SqT.of ha, rfl, ?_⟩
    walk_at "go"
    refine Rm.iteB0 (by decide +kernel) ?_
    walk_at "go"
    refine ⟨_, _, _, _, rfl, rfl, SqT.of ha, rfl, ?_⟩
    walk_at "go"
    refine Rm.iteB0 (by decide +kernel) ?_
    walk_at "go"
    refine ⟨_, _, _, _, rfl, rfl, SqT.of ha, rfl, ?_⟩
    walk_at "go"
    refine Rm.iteB1 (by decide +kernel) ?_
    walk_at "go"
    refine ⟨_, _, _, _, rfl, rfl, SqT.of ha, rfl, ?_⟩
    walk_at "go"
    refine ⟨l, _, _, _, rfl, rfl, SqL.of el, Rm.at0, ?_⟩
    walk_at "go"
    exact q _ ⟨y, rfl, rfl⟩
theorem ok_lengths (T : Txt K mg t) (G_inner : FnOk P w K mg base CX0 2 t.a_inner t.d_inner ["book"] (Rm.sp_inner)) (G_moved : FnOk P w K mg base CX0 4 t.a_moved t.d_moved ["book"] (Rm.sp_moved)) (G_check_side : FnOk P w K mg base CX0 1 t.a_check_side t.d_check_side ["row", "moves", "limbs"] (Rm.sp_check_side)) (G_length_of : FnOk P w K mg base CX0 1 t.a_length_of t.d_length_of ["form", "inside"] (Rm.sp_length_of)) : FnOk P w K mg base CX0 5 t.a_lengths t.d_lengths ["book"] (Rm.sp_lengths) := by
  refine T.F_lengths.ok sc_lengths (fun vs H Q E h => ?_) (fun cdv A outer s H vs Q E hr h => ?_)
  · obtain ⟨b, pl, pp, las, pas, ls, ps, gs, hs, rfl, B, S, q⟩ := h
    rfl
  obtain ⟨b, pl, pp, las, pas, ls, ps, gs, hs, rfl, B, S, q⟩ := h
  refine ⟨_, (pss_cons (ps_set (i := 1) sc_lengths.nd rfl (.inr rfl) (pe_call (G_moved.mono (by decide)) hr (by rfl) T.m_moved T.F_moved.kp T.B_moved .nil pass0 (pa_cons (pv 0) pa_nil)))
    (pss_cons (ps_set (i := 2) sc_lengths.nd rfl (.inr rfl) (pe_lst pa_nil))
    (pss_cons (ps_for PassesOwn.never rfl (pi_enum (by rfl) T.b_enumerate (pa_cons (pe_call (G_inner.mono (by decide)) hr (by rfl) T.m_inner T.F_inner.kp T.B_inner .nil pass0 (pa_cons (pv 0) pa_nil)) pa_nil)) (pg_tup rfl (pgs_cons (pg_name (i := 3) sc_lengths.nd rfl (.inl rfl)) (pgs_cons (pg_name (i := 4) sc_lengths.nd rfl (.inl rfl)) pgs_nil)))
      (pss_cons (ps_set (i := 5) sc_lengths.nd rfl (.inl rfl) (pe_ix ix_tup (pe_ix ix_list (pe_ix ix_tup (pv 0) pe_int (fun _ _ => rfl)) (pv 3) (fun _ _ => rfl)) pe_int (fun _ _ => rfl)))
      (pss_cons (ps_ifJ (pt_cmpR op_eq (pe_ix ix_tup (pv 5) pe_int (fun _ _ => rfl)) pe_str (nomark _))
        (pss_one (ps_expr (pe_call (G_check_side.mono (by decide)) hr (by rfl) T.m_check_side T.F_check_side.kp T.B_check_side .nil pass0 (pa_cons (pv 3) (pa_cons (pe_comp (ow := ["part"]) (ci := [1]) rfl (CompScope.of (defScope s_lengths) ["book", "moves", "found", "row", "inside", "form", "length"] rfl rfl (by decide +kernel)) (gk_name (by decide)) (pi_list (pv 4)) (fun _ _ _ _ _ => ⟨(pg_name (i := 0) (blk_nd ["book", "moves", "found", "row", "inside", "form", "length"] rfl (by decide +kernel)) rfl (.inl rfl)), pf_nil, (pe_ix (ix_listK (K := K) rfl) (pv 1) (pv 0) (fun _ _ => rfl))⟩)) (pa_cons (pe_ix ix_tup (pv 0) pe_int (fun _ _ => rfl)) pa_nil))))))
        pss_nil)
      (pss_cons (ps_set (i := 6) sc_lengths.nd rfl (.inl rfl) (pe_call (G_length_of.mono (by decide)) hr (by rfl) T.m_length_of T.F_length_of.kp T.B_length_of .nil pass0 (pa_cons (pv 5) (pa_cons (pe_comp (ow := ["part"]) (ci := [2]) rfl (CompScope.of (defScope s_lengths) ["book", "moves", "found", "row", "inside", "form", "length"] rfl rfl (by decide +kernel)) (gk_name (by decide)) (pi_list (pv 4)) (fun _ _ _ _ _ => ⟨(pg_name (i := 0) (blk_nd ["book", "moves", "found", "row", "inside", "form", "length"] rfl (by decide +kernel)) rfl (.inl rfl)), pf_nil, (pe_ix (ix_listK (K := K) rfl) (pv 1) (pv 0) (fun _ _ => rfl))⟩)) pa_nil))))
      (pss_cons (ps_if (pt_cmpR op_gt (pv 6) (pe_op op_pow pe_int pe_int) (nomark _))
        (pss_one ps_never)
        pss_nil)
      (pss_one (ps_expr (pe_bm PySem.F.plainAttrs_list PySem.F.slot_list_append PySem.F.type_list_append mt_append (pv 2) (pa_cons (pv 6) pa_nil)))))))))
    (pss_one (ps_ret (pv 2)))))), ?_⟩
  refine rd_start (σ' := [some _, none, none, none, none, none, none]) rfl ?_
  have sz : (200 : Nat) < sizeLine := by decide
  have W := S.w
  have pa := B.pa.1
  have gl := S.gl
  have p61 := W.p61
  walk_at "go"
  refine ⟨b, pl, pp, las, pas, _, _, rfl, B, W, fun lm cms M H1 s1 hlm elm nlm Ml aM oM => ?_⟩
  have mg := S.mv M Ml oM
  have aMl := aM.1
  walk_at "go"
  refine ⟨Nat.zero_le _, ?_⟩
  intro l hl; generalize eH : L2.upd _ l _ = H2; have s2 := L2.same_of hl eH; have t2 := L2.at_of eH; clear eH
  have nl := Rm.none_of s1 hl
  have s12 := s1.trans s2
  walk_at "go"
  refine ⟨b, pl, pp, las, pas, _, _, rfl, B.same s12, W, fun li ias H3 s3 hli eli nia lia => ?_⟩
  walk_at "go"
  have s13 := s12.trans s3
  have s23 := s2.trans s3
  have lial := lia.1
  rw [List.length_map] at lial
  have nli : li ≠ l := fun z => by rw [z, t2] at hli; cases hli
  have t3 : H3 l = some (.lst []) := s3 _ _ t2
  have npl : ∀ {c u}, H c = some u → c ≠ l := fun h => ne_of_none h nl
  have np1 : ∀ {c u}, H1 c = some u → c ≠ l := fun h => ne_of_none h hl
  refine ⟨li, _, rfl, SqL.of eli, ?_⟩
  refine for_enum (xs := ias.map V.ref) (fun i σ H' => ∃ (o3 o4 o5 o6 : Option V), σ = [some (.ref b), some (.ref lm), some (.ref l), o3, o4, o5, o6] ∧ (∀ c u, c ≠ l → H3 c = some u → H' c = some u) ∧ H' l = some (.lst ((gs.take i).map V.int)))
    ⟨_, _, _, _, rfl, fun c u _ h => h, t3⟩ ?_ ?_ ?_
  · rintro i σ H' _ ⟨o3, o4, o5, o6, rfl, sm, e1⟩
    exact SqL.of (sm _ _ nli eli)
  · rintro i v σ H' P H4 hv ⟨o3, o4, o5, o6, rfl, sm, e1⟩ sP tP
    obtain ⟨ia, is', rfl, his, hia⟩ := lia.at_ref hv
    have hi : i < ps.length := by
      have := (List.getElem?_eq_some_iff.mp his).1
      rw [List.length_map] at this
      exact this
    obtain ⟨p, hp⟩ : ∃ p, ps[i]? = some p := ⟨_, List.getElem?_eq_getElem hi⟩
    rw [List.getElem?_map, hp] at his
    cases his
    obtain ⟨a, ea, fb, hat, hf⟩ := B.pa.get hp
    have iam : ia ∈ ias := by
      rw [List.getElem?_map] at hv
      obtain ⟨a', ea', e'⟩ := Option.map_eq_some_iff.mp hv
      injection e' with e'
      subst e'
      exact List.mem_of_getElem? ea'
    have nial : ia ≠ l := fun z => by have := nia ia iam; rw [z, t2] at this; cases this
    have k4 : ∀ c u, c ≠ l → H3 c = some u → H4 c = some u := fun c u hc h => sP _ _ (sm _ _ hc h)
    have k04 : ∀ c u, H c = some u → H4 c = some u := fun c u h => k4 _ _ (npl h) (s13 _ _ h)
    have k14 : ∀ c u, H1 c = some u → H4 c = some u := fun c u h => k4 _ _ (np1 h) (s23 _ _ h)
    have hia4 : H4 ia = some (.lst (((Rm.inP ps p.2).map fun j : Nat => (j : Int)).map V.int)) := k4 _ _ nial hia
    have e14 := sP _ _ e1
    have hf4 : Rm.FormAt H4 fb p.2 := Rm.FormAt.same k04 hf
    have inl := fun j => W.inP_lt (j := j) hp
    have w8 : (Rm.inP ps p.2).length ≤ 8 := by unfold Rm.inP; rw [List.length_map]; exact (W.f i p hp).2
    obtain ⟨lp, lgd⟩ := S.ln i p hp
    have lgi := S.gb i hi
    refine rd_gT2 (SqT.of tP) ?_
    walk_at "go"
    refine ⟨b, _, _, _, rfl, rfl, SqT.of (k04 _ _ B.t), rfl, ?_⟩
    walk_at "go"
    refine ⟨pp, _, _, _, rfl, rfl, SqL.of (k04 _ _ B.p), Rm.at_refI (i := (i : Int)) (by omega) ea, ?_⟩
    walk_at "go"
    refine ⟨a, _, _, _, rfl, rfl, SqT.of (k04 _ _ hat), rfl, ?_⟩
    walk_at "go"
    refine ⟨fun σ' H5 => σ' = [some (.ref b), some (.ref lm), some (.ref l), some (.int i), some (.ref ia), some (.ref fb), o6] ∧ Same H4 H5, ?_, ?_⟩
    rotate_left
    · by_cases hs0 : ∃ qs, p.2 = .side qs
      · obtain ⟨qs, e⟩ := hs0
        have ap := S.sd i p qs hp e
        generalize Rm.inP ps p.2 = is at hia4 inl ap w8
        rw [e] at hf4
        obtain ⟨nb, hf5, _⟩ := hf4
        walk_at "go"
        refine ⟨fb, _, _, _, rfl, rfl, SqT.of hf5, rfl, ?_⟩
        walk_at "go"
        refine Rm.iteB1 (by decide +kernel) ?_
        walk_at "go"
        refine ⟨ia, rfl, ⟨_, SqL.of hia4⟩, ?_⟩
        have cat : ∀ j ∈ is, ∃ c, cms[j]? = some c ∧ H4 c = some (.lst ((hs.getD j []).map V.int)) := fun j hj => by
          have jl := inl j hj
          obtain ⟨c, hc, h1⟩ := aM.get (i := j) (x := M.getD j []) (by rw [List.getD_eq_getElem?_getD, List.getElem?_eq_getElem (by omega)]; rfl)
          rw [mg j (by omega)] at h1
          exact ⟨c, hc, k14 _ _ h1⟩
        refine comp_list (xs := (is.map fun j : Nat => (j : Int)).map V.int) (fun t ys H' => ∃ cs : List Addr, ys = cs.map V.ref ∧ Rm.ListsAt H4 cs ((is.take t).map fun j => hs.getD j []) ∧ H4 = H') ⟨[], rfl, .nil, rfl⟩ ?_ ?_ ?_
        · rintro t ys H' _ ⟨cs, rfl, lc, rfl⟩
          exact SqL.of hia4
        · rintro t x ys H' hx ⟨cs, rfl, lc, rfl⟩
          rw [List.getElem?_map, List.getElem?_map] at hx
          obtain ⟨jj, hjj, rfl⟩ := Option.map_eq_some_iff.mp hx
          obtain ⟨j, hj, rfl⟩ := Option.map_eq_some_iff.mp hjj
          obtain ⟨c, hc, h1⟩ := cat j (List.mem_of_getElem? hj)
          have lcl := lc.1
          rw [List.length_map, List.length_take] at lcl
          refine rd_cap (σ' := [none, some _]) rfl ?_
          walk_at "go"
          refine iteT ?_
          walk_at "go"
          refine ⟨lm, _, _, _, rfl, rfl, SqL.of (k14 _ _ elm), Rm.at_refI (i := (j : Int)) (by omega) hc, ?_⟩
          refine ⟨by rw [List.length_map]; omega, cs ++ [c], by rw [List.map_append]; rfl, ?_, rfl⟩
          rw [Rm.take_snoc hj, List.map_append]
          exact Rm.All2.snoc lc h1
        rintro ys H' ⟨cs, rfl, lc, rfl⟩
        rw [List.length_map, List.length_map, List.take_length] at lc
        have lcl := lc.1
        rw [List.length_map] at lcl
        refine ⟨by rw [List.length_map]; omega, ?_⟩
        intro p5 hp5; generalize eH : L2.upd _ p5 _ = H5; have s5 := L2.same_of hp5 eH; have t5 := L2.at_of eH; clear eH
        walk_at "go"
        refine ⟨b, _, _, _, rfl, rfl, SqT.of (s5 _ _ (k04 _ _ B.t)), rfl, ?_⟩
        walk_at "go"
        refine ⟨_, p5, pl, cs, las, (is.map fun j => hs.getD j []), rfl, t5, Rm.All2.mono lc fun c ks h => s5 _ _ h, fun ks hks => ?_, by rw [List.length_map]; omega, s5 _ _ (k04 _ _ B.l), ap.2, fun H6 s6 => ?_⟩
        · obtain ⟨j, hj, rfl⟩ := List.mem_map.mp hks
          exact ap.1 j hj
        walk_at "go"
        exact ⟨rfl, s5.trans s6⟩
      · have kd : ∃ k xs, H4 fb = some (.tup (.str k :: xs)) ∧ decide (k = ("side" : Str)) = false := by
          generalize p.2 = f at hf4 hs0
          cases f with
          | side qs => exact absurd ⟨qs, rfl⟩ hs0
          | hold n => exact ⟨_, _, hf4, by decide +kernel⟩
          | ring x n => exact ⟨_, _, hf4, by decide +kernel⟩
          | rise x v n => exact ⟨_, _, hf4, by decide +kernel⟩
          | row qs => obtain ⟨_, h1, _⟩ := hf4; exact ⟨_, _, h1, by decide +kernel⟩
          | again k x => exact ⟨_, _, hf4, by decide +kernel⟩
        obtain ⟨k, xs, hk, dk⟩ := kd
        walk_at "go"
        refine ⟨fb, _, _, _, rfl, rfl, SqT.of hk, Rm.at0, ?_⟩
        walk_at "go"
        refine Rm.iteB0 dk ?_
        walk_at "go"
        exact ⟨rfl, Same.refl _⟩
    rintro σ' H5 ⟨rfl, s5⟩
    walk_at "go"
    refine ⟨ia, rfl, ⟨_, SqL.of (s5 _ _ hia4)⟩, ?_⟩
    have e15 := s5 _ _ e14
    refine comp_list (xs := ((Rm.inP ps p.2).map fun j : Nat => (j : Int)).map V.int) (fun t ys H' => ys = (((Rm.inP ps p.2).take t).map fun j => gs.getD j 0).map V.int ∧ H5 = H') ⟨rfl, rfl⟩ ?_ ?_ ?_
    · rintro t ys H' _ ⟨rfl, rfl⟩
      exact SqL.of (s5 _ _ hia4)
    · rintro t x ys H' hx ⟨rfl, rfl⟩
      rw [List.getElem?_map, List.getElem?_map] at hx
      obtain ⟨jj, hjj, rfl⟩ := Option.map_eq_some_iff.mp hx
      obtain ⟨j, hj, rfl⟩ := Option.map_eq_some_iff.mp hjj
      have jl := inl j (List.mem_of_getElem? hj)
      refine rd_cap (σ' := [none, some _]) rfl ?_
      walk_at "go"
      refine iteT ?_
      walk_at "go"
      refine ⟨l, _, _, _, rfl, rfl, SqL.of e15, Rm.gs_at (by omega) jl, ?_⟩
      refine ⟨by rw [List.length_map, List.length_map, List.length_take]; omega, ?_, rfl⟩
      rw [Rm.take_snoc hj, List.map_append, List.map_append]
      rfl
    rintro ys H' ⟨rfl, rfl⟩
    rw [show (((Rm.inP ps p.2).map fun j : Nat => (j : Int)).map V.int).length = (Rm.inP ps p.2).length by rw [List.length_map, List.length_map], List.take_length]
    refine ⟨by rw [List.length_map, List.length_map]; omega, ?_⟩
    intro p6 hp6; generalize eH : L2.upd _ p6 _ = H6; have s6 := L2.same_of hp6 eH; have t6 := L2.at_of eH; clear eH
    walk_at "go"
    refine ⟨fb, p6, p.2, _, rfl, Rm.FormAt.same (s5.trans s6) hf4, t6, lp, fun g hg => ?_⟩
    have eg := lgd g hg
    subst eg
    walk_at "go"
    refine iteD (fun d => ?_) (fun d => ?_)
    · exfalso
      omega
    walk_at "go"
    refine ⟨.inl ⟨rfl, _, SqL.of (s6 _ _ e15)⟩, ?_⟩
    walk_at "go"
    refine ⟨l, _, _, rfl, rfl, s6 _ _ e15, by rw [List.length_map, List.length_take]; omega, ?_⟩
    refine ⟨_, _, _, _, rfl, fun c u hc h => (upd_ne hc).trans (s6 _ _ (s5 _ _ (k4 _ _ hc h))), ?_⟩
    rw [upd_same, Rm.gs_take (by omega), List.map_append]
    rfl
  rintro σ' H' ⟨o3, o4, o5, o6, rfl, sm, e1⟩
  rw [List.length_map, lial, ← gl, List.take_length] at e1
  walk_at "go"
  exact q l H' (fun c u h => sm _ _ (npl h) (s13 _ _ h)) nl e1
theorem ok_pieces_in (T : Txt K mg t) : FnOk P w K mg base CX0 1 t.a_pieces_in t.d_pieces_in ["form", "inside", "sizes"] (Rm.sp_pieces0) := by
  refine T.F_pieces_in.ok sc_pieces_in (fun vs H Q E h => ?_) (fun cdv A outer s H vs Q E hr h => ?_)
  · obtain ⟨a, l, s0, f, rfl, hf, hn, el, q⟩ := h
    rfl
  obtain ⟨a, l, s0, f, rfl, hf, hn, el, q⟩ := h
  refine ⟨_, (pss_cons (ps_if (pt_cmpR op_eq (pe_ix ix_tup (pv 0) pe_int (fun _ _ => rfl)) pe_str (nomark _))
      (pss_cons (ps_set (i := 3) sc_pieces_in.nd rfl (.inl rfl) (pe_ix ix_list (pv 1) pe_int (fun _ _ => rfl)))
      (pss_cons (ps_set (i := 4) sc_pieces_in.nd rfl (.inl rfl) (pe_ifExp (pt_cmpR op_gt (pe_ix ix_tup (pv 0) pe_int (fun _ _ => rfl)) pe_int (nomark _)) (pe_lst (pa_cons (pe_tup (pa_cons (pv 3) (pa_cons (pe_op op_sub (pe_ix ix_tup (pv 0) pe_int (fun _ _ => rfl)) pe_int) (pa_cons (pe_ix ix_list (pv 2) (pv 3) (fun _ _ => rfl)) pa_nil)))) pa_nil)) (pe_lst pa_nil)))
      (pss_one (ps_ret (pe_op op_cat (pe_lst (pa_cons (pe_tup (pa_cons (pv 3) (pa_cons pe_int (pa_cons pe_int pa_nil)))) pa_nil)) (pv 4))))))
      pss_nil)
    (pss_cons (ps_set (i := 5) sc_pieces_in.nd rfl (.inl rfl) (pe_lst pa_nil))
    (pss_cons (ps_set (i := 6) sc_pieces_in.nd rfl (.inl rfl) pe_int)
    (pss_cons (ps_for PassesOwn.never rfl (pi_list (pv 1)) (pg_name (i := 3) sc_pieces_in.nd rfl (.inl rfl))
      (pss_cons (ps_expr (pe_bm PySem.F.plainAttrs_list PySem.F.slot_list_append PySem.F.type_list_append mt_append (pv 5) (pa_cons (pe_tup (pa_cons (pv 3) (pa_cons pe_int (pa_cons (pv 6) pa_nil)))) pa_nil)))
      (pss_one (ps_if (pt_cmpR op_eq (pe_ix ix_tup (pv 0) pe_int (fun _ _ => rfl)) pe_str (nomark _))
        (pss_one (ps_aug (i := 6) sc_pieces_in.nd rfl (.inl rfl) (pe_ix ix_list (pv 2) (pv 3) (fun _ _ => rfl)) ip_add))
        pss_nil))))
    (pss_one (ps_ret (pv 5))))))), ?_⟩
  refine rd_start (σ' := [some _, some _, some _, none, none, none, none]) rfl ?_
  have sz : (200 : Nat) < sizeLine := by decide
  have key : ∃ k xs, H a = some (.tup (.str k :: xs)) ∧ decide (k = ("again" : Str)) = false := by
    cases f with
    | hold n => exact ⟨_, _, hf, by decide +kernel⟩
    | ring x n => exact ⟨_, _, hf, by decide +kernel⟩
    | rise x v n => exact ⟨_, _, hf, by decide +kernel⟩
    | row ps => obtain ⟨b, h1, _⟩ := hf; exact ⟨_, _, h1, by decide +kernel⟩
    | side ps => obtain ⟨b, h1, _⟩ := hf; exact ⟨_, _, h1, by decide +kernel⟩
    | again k x => exact absurd hn (fun z => by cases z)
  obtain ⟨k, xs, hk, dk⟩ := key
  walk_at "go"
  refine ⟨a, _, _, _, rfl, rfl, SqT.of hk, Rm.at0, ?_⟩
  walk_at "go"
  refine Rm.iteB0 dk ?_
  walk_at "go"
  refine ⟨Nat.zero_le _, ?_⟩
  intro p hp; generalize eH : L2.upd _ p _ = H1; have s1 := L2.same_of hp eH; have t1 := L2.at_of eH; clear eH
  walk_at "go"
  refine ⟨l, rfl, ⟨_, SqL.of (s1 _ _ el)⟩, ?_⟩
  refine for_list (xs := []) (fun i σ H' => ∃ (o3 o6 : Option V), σ = [some (.ref a), some (.ref l), some (.ref s0), o3, none, some (.ref p), o6] ∧ H1 = H') ⟨_, _, rfl, rfl⟩ ?_ ?_ ?_
  · rintro i σ H' _ ⟨o3, o6, rfl, rfl⟩
    exact SqL.of (s1 _ _ el)
  · rintro i v σ H' hv
    simp at hv
  rintro σ' H' ⟨o3, o6, rfl, rfl⟩
  walk_at "go"
  exact q _ _ s1 hp t1
theorem ok_pieces_of (T : Txt K mg t) (G_inner : FnOk P w K mg base CX0 2 t.a_inner t.d_inner ["book"] (Rm.sp_inner)) (G_pieces_in : FnOk P w K mg base CX0 1 t.a_pieces_in t.d_pieces_in ["form", "inside", "sizes"] (Rm.sp_pieces0)) : FnOk P w K mg base CX0 3 t.a_pieces_of t.d_pieces_of ["book", "sizes"] (Rm.sp_pieces_of0) := by
  refine T.F_pieces_of.ok sc_pieces_of (fun vs H Q E h => ?_) (fun cdv A outer s H vs Q E hr h => ?_)
  · obtain ⟨b, pl, pp, s0, las, pas, ls, ps, rfl, B, W, hn, q⟩ := h
    rfl
  obtain ⟨b, pl, pp, s0, las, pas, ls, ps, rfl, B, W, hn, q⟩ := h
  refine ⟨_, (pss_one (ps_ret (pe_comp (ow := ["part", "inside"]) (ci := [1]) rfl (CompScope.of (defScope s_pieces_of) ["book", "sizes"] rfl rfl (by decide +kernel)) (gk_tup2 (by decide) (by decide)) (pi_zip (by rfl) T.b_zip (pa_cons (pe_ix ix_tup (pv 0) pe_int (fun _ _ => rfl)) (pa_cons (pe_call (G_inner.mono (by decide)) hr (by rfl) T.m_inner T.F_inner.kp T.B_inner .nil pass0 (pa_cons (pv 0) pa_nil)) pa_nil))) (fun _ _ _ _ _ => ⟨(pg_tup rfl (pgs_cons (pg_name (i := 0) (blk_nd ["book", "sizes"] rfl (by decide +kernel)) rfl (.inl rfl)) (pgs_cons (pg_name (i := 1) (blk_nd ["book", "sizes"] rfl (by decide +kernel)) rfl (.inl rfl)) pgs_nil))), pf_nil, (pe_call (G_pieces_in.mono (by decide)) hr (by rfl) T.m_pieces_in T.F_pieces_in.kp T.B_pieces_in .nil pass0 (pa_cons (pe_ix (ix_tupK (K := K) rfl) (pv 0) pe_int (fun _ _ => rfl)) (pa_cons (pv 1) (pa_cons (pv 2) pa_nil))))⟩)))), ?_⟩
  refine rd_start (σ' := [some _, some _]) rfl ?_
  have sz : (200 : Nat) < sizeLine := by decide
  have p61 := W.p61
  have pa := B.pa.1
  walk_at "go"
  refine ⟨b, _, _, _, rfl, rfl, SqT.of B.t, rfl, ?_⟩
  walk_at "go"
  refine ⟨b, pl, pp, las, pas, ls, ps, rfl, B, W, fun li ias H3 s3 hli eli nia lia => ?_⟩
  walk_at "go"
  have lial := lia.1
  rw [List.length_map] at lial
  refine ⟨pp, li, _, _, rfl, SqL.of (s3 _ _ B.p), SqL.of eli, ?_⟩
  refine comp_zip (xs := pas.map V.ref) (zs := ias.map V.ref) (fun i ys H' => ∃ as : List Addr, ys = as.map V.ref ∧ as.length = i ∧ Same H3 H' ∧ ∀ a ∈ as, H' a = some (.lst [])) (by rw [List.length_map, List.length_map]; omega) ⟨[], rfl, rfl, Same.refl _, (fun a h => nomatch h)⟩ ?_ ?_ ?_
  · rintro i ys H' _ ⟨as, rfl, hl, sm, ha⟩
    exact ⟨SqL.of (sm _ _ (s3 _ _ B.p)), SqL.of (sm _ _ eli)⟩
  · rintro i u v ys H' T0 H4 hu hv ⟨as, rfl, hl, sm, ha⟩ sP tP
    have hi := (List.getElem?_eq_some_iff.mp hu).1
    rw [List.length_map] at hi
    obtain ⟨a, p, rfl, hp, fb, hat, hf⟩ := B.pa.at_ref hu
    obtain ⟨ia, is, rfl, his, hia⟩ := lia.at_ref hv
    rw [List.getElem?_map, hp] at his
    cases his
    have en := hn p (List.mem_of_getElem? hp)
    have ei : (Rm.inP ps p.2).map (fun j : Nat => (j : Int)) = [] := by unfold Rm.inP; rw [en]; rfl
    dsimp only at hia
    rw [ei] at hia
    have s4 := sm.trans sP
    have s04 := s3.trans s4
    refine rd_cap (σ' := [none, none, some _]) rfl ?_
    refine rd_gT2 (SqT.of tP) ?_
    walk_at "go"
    refine iteT ?_
    walk_at "go"
    refine ⟨a, _, _, _, rfl, rfl, SqT.of (s04 _ _ hat), rfl, ?_⟩
    walk_at "go"
    refine ⟨fb, ia, s0, p.2, rfl, Rm.FormAt.same s04 hf, en, s4 _ _ hia, fun p5 H5 s5 hp5 e5 => ?_⟩
    refine ⟨by rw [List.length_map]; omega, as ++ [p5], by rw [List.map_append]; rfl, by rw [List.length_append, hl]; rfl, s4.trans s5, fun c hc => ?_⟩
    rcases List.mem_append.mp hc with z | z
    · exact s5 _ _ (sP _ _ (ha c z))
    · rw [List.mem_singleton.mp z]; exact e5
  rintro ys H' ⟨as, rfl, hl, sm, ha⟩
  rw [List.length_map] at hl
  refine ⟨by rw [List.length_map]; omega, ?_⟩
  intro p4 hp4; generalize eH : L2.upd _ p4 _ = H4; have s4 := L2.same_of hp4 eH; have t4 := L2.at_of eH; clear eH
  exact q _ as _ (s3.trans (sm.trans s4)) (Rm.none_of (s3.trans sm) hp4) t4 (by omega) fun a h => s4 _ _ (ha a h)
theorem ok_Stage___init__ (T : Txt K mg t) (G_numbers_of : FnOk P w K mg base CX0 1 t.a_numbers_of t.d_numbers_of ["named"] (Rm.sp_numbers_of)) (G_ends : FnOk P w K mg base CX0 3 t.a_ends t.d_ends ["book"] (Rm.sp_ends)) (G_lengths : FnOk P w K mg base CX0 5 t.a_lengths t.d_lengths ["book"] (Rm.sp_lengths)) (G_pieces_of : FnOk P w K mg base CX0 3 t.a_pieces_of t.d_pieces_of ["book", "sizes"] (Rm.sp_pieces_of0)) : FnOk P w K mg base CX0 6 t.a_Stage___init__ t.d_Stage___init__ ["self", "book"] (Rm.sp_init1 t.c_Stage) := by
  refine T.F_Stage___init__.ok sc_Stage___init__ (fun vs H Q E h => ?_) (fun cdv A outer s H vs Q E hr h => ?_)
  · obtain ⟨a, dx, b, pl, pp, las, pas, ls, x, f, rfl, ha, B, O, q⟩ := h
    rfl
  obtain ⟨a, dx, b, pl, pp, las, pas, ls, x, f, rfl, ha, B, O, q⟩ := h
  refine ⟨_, (pss_cons (ps_fld (pv 0) (pe_call (G_numbers_of.mono (by decide)) hr (by rfl) T.m_numbers_of T.F_numbers_of.kp T.B_numbers_of .nil pass0 (pa_cons (pe_ix ix_tup (pv 1) pe_int (fun _ _ => rfl)) pa_nil)) rfl)
    (pss_cons (ps_fld (pv 0) (pe_comp (ow := ["name", "height"]) (ci := []) rfl (CompScope.of (defScope s_Stage___init__) ["self", "book"] rfl rfl (by decide +kernel)) (gk_tup2 (by decide) (by decide)) (pi_list (pe_ix ix_tup (pv 1) pe_int (fun _ _ => rfl))) (fun _ _ _ _ _ => ⟨(pg_tup rfl (pgs_cons (pg_name (i := 0) (blk_nd ["self", "book"] rfl (by decide +kernel)) rfl (.inl rfl)) (pgs_cons (pg_name (i := 1) (blk_nd ["self", "book"] rfl (by decide +kernel)) rfl (.inl rfl)) pgs_nil))), pf_nil, (pv 1)⟩)) rfl)
    (pss_cons (ps_fld (pv 0) (pe_comp (ow := ["name", "form"]) (ci := []) rfl (CompScope.of (defScope s_Stage___init__) ["self", "book"] rfl rfl (by decide +kernel)) (gk_tup2 (by decide) (by decide)) (pi_list (pe_ix ix_tup (pv 1) pe_int (fun _ _ => rfl))) (fun _ _ _ _ _ => ⟨(pg_tup rfl (pgs_cons (pg_name (i := 0) (blk_nd ["self", "book"] rfl (by decide +kernel)) rfl (.inl rfl)) (pgs_cons (pg_name (i := 1) (blk_nd ["self", "book"] rfl (by decide +kernel)) rfl (.inl rfl)) pgs_nil))), pf_nil, (pv 1)⟩)) rfl)
    (pss_cons (ps_fld (pv 0) (pe_call (G_lengths.mono (by decide)) hr (by rfl) T.m_lengths T.F_lengths.kp T.B_lengths .nil pass0 (pa_cons (pv 1) pa_nil)) rfl)
    (pss_cons (ps_fld (pv 0) (pe_call (G_ends.mono (by decide)) hr (by rfl) T.m_ends T.F_ends.kp T.B_ends .nil pass0 (pa_cons (pv 1) pa_nil)) rfl)
    (pss_one (ps_fld (pv 0) (pe_call (G_pieces_of.mono (by decide)) hr (by rfl) T.m_pieces_of T.F_pieces_of.kp T.B_pieces_of .nil pass0 (pa_cons (pv 1) (pa_cons (pe_fld (pv 0) rfl) pa_nil))) rfl))))))), ?_⟩
  refine rd_start (σ' := [some _, some _]) rfl ?_
  have sz : (200 : Nat) < sizeLine := by decide
  have W := O.w
  have l8 := W.l8
  have la := B.la.1
  obtain ⟨H0, less, n0, B0⟩ := B.less ha
  have z0 : Same H0 H := less H fun c u _ h => h
  walk_at "go"
  refine ⟨b, _, _, _, rfl, rfl, SqT.of B.t, rfl, ?_⟩
  walk_at "go"
  refine ⟨pl, las, Rm.nmsOf ls, rfl, B.l, by rw [Rm.nmsOf, List.length_map]; exact la, fun i a x ea ex => ?_, W.ln, by rw [Rm.nmsOf, List.length_map]; omega, fun d H1 s1 hd ed => ?_⟩
  · unfold Rm.nmsOf at ex
    rw [List.getElem?_map] at ex
    obtain ⟨p, ep, rfl⟩ := Option.map_eq_some_iff.mp ex
    exact ⟨_, B.la.2 i a p ea ep⟩
  walk_at "go"
  refine ⟨a, _, dx, [], rfl, s1 _ _ ha, T.cl_Stage, T.n_Stage_limbs, (by show 0 < 1000; decide), ?_⟩
  have nd : d ≠ a := fun z => by rw [z, ha] at hd; cases hd
  generalize e2 : upd H1 a _ = H2
  have k2 : ∀ c u, c ≠ a → H1 c = some u → H2 c = some u := fun c u n h => e2 ▸ (upd_ne n).trans h
  have a2 := L2.at_of e2
  clear e2
  have z2 : Same H0 H2 := less H2 fun c u n h => k2 _ _ n (s1 _ _ h)
  have B2 := B0.same z2
  walk_at "go"
  refine ⟨b, _, _, _, rfl, rfl, SqT.of B2.t, rfl, ?_⟩
  walk_at "go"
  refine ⟨pl, rfl, ⟨_, SqL.of B2.l⟩, ?_⟩
  refine comp_list (xs := las.map V.ref) (fun i ys H' => ys = ((ls.map (·.2)).take i).map V.int ∧ H2 = H') ⟨rfl, rfl⟩ ?_ ?_ ?_
  · rintro i ys H' _ ⟨rfl, rfl⟩
    exact SqL.of B2.l
  · rintro i v ys H' hv ⟨rfl, rfl⟩
    obtain ⟨a, p, rfl, hp, hat⟩ := B2.la.at_ref hv
    have hi := (List.getElem?_eq_some_iff.mp hp).1
    refine rd_cap (σ' := [none, none]) rfl ?_
    refine rd_gT2 (SqT.of hat) ?_
    walk_at "go"
    refine iteT ?_
    walk_at "go"
    refine ⟨by rw [List.length_map, List.length_take, List.length_map]; omega, ?_, rfl⟩
    rw [Rm.take_snoc (show (ls.map (·.2))[i]? = some p.2 by rw [List.getElem?_map, hp]; rfl), List.map_append]
    rfl
  rintro ys H' ⟨rfl, rfl⟩
  rw [show (las.map V.ref).length = (ls.map (·.2)).length by rw [List.length_map, List.length_map]; exact la, List.take_length]
  refine ⟨by rw [List.length_map, List.length_map]; omega, ?_⟩
  intro p3 hp3; generalize eH : L2.upd _ p3 _ = H3; have s3 := L2.same_of hp3 eH; have t3 := L2.at_of eH; clear eH
  walk_at "go"
  refine ⟨a, _, dx, _, rfl, s3 _ _ a2, T.cl_Stage, T.n_Stage_first, Rm.few (Rm.len_putF _ _ _) (by decide), ?_⟩
  have n3 : p3 ≠ a := fun z => by rw [z, a2] at hp3; cases hp3
  generalize e4 : upd H3 a _ = H4
  have k4 : ∀ c u, c ≠ a → H3 c = some u → H4 c = some u := fun c u n h => e4 ▸ (upd_ne n).trans h
  have a4 := L2.at_of e4
  clear e4
  have z4 : Same H0 H4 := fun c u h => k4 _ _ (n0 h) (s3 _ _ (z2 _ _ h))
  have B4 := B0.same z4
  obtain ⟨a0, ea, fb, hat, hf⟩ := B4.pa.get (i := 0) rfl
  have epas : pas = [a0] := by
    obtain ⟨y, rfl⟩ := List.length_eq_one_iff.mp (show pas.length = 1 from B.pa.1)
    exact congrArg (fun z => [z]) (Option.some.inj ea)
  walk_at "go"
  refine ⟨b, _, _, _, rfl, rfl, SqT.of B4.t, rfl, ?_⟩
  walk_at "go"
  refine ⟨pp, rfl, ⟨_, SqL.of B4.p⟩, ?_⟩
  refine comp_list (xs := pas.map V.ref) (fun i ys H' => ys = ([V.ref fb] : List V).take i ∧ H4 = H') ⟨rfl, rfl⟩ ?_ ?_ ?_
  · rintro i ys H' _ ⟨rfl, rfl⟩
    exact SqL.of B4.p
  · rintro i v ys H' hv ⟨rfl, rfl⟩
    rw [epas] at hv
    match i, hv with
    | 0, hv =>
      have ev : v = .ref a0 := by simpa using hv.symm
      subst ev
      refine rd_cap (σ' := [none, none]) rfl ?_
      refine rd_gT2 (SqT.of hat) ?_
      walk_at "go"
      refine iteT ?_
      walk_at "go"
      exact ⟨by show 0 < sizeLine; omega, rfl, rfl⟩
    | i + 1, hv => simp at hv
  rintro ys H' ⟨rfl, rfl⟩
  rw [epas]
  refine ⟨by show 1 ≤ sizeLine; omega, ?_⟩
  intro p5 hp5; generalize eH : L2.upd _ p5 _ = H5; have s5 := L2.same_of hp5 eH; have t5 := L2.at_of eH; clear eH
  walk_at "go"
  refine ⟨a, _, dx, _, rfl, s5 _ _ a4, T.cl_Stage, T.n_Stage_forms, Nat.lt_of_le_of_lt (Rm.len_putF _ _ _) (Nat.lt_of_le_of_lt (Nat.succ_le_succ (Rm.len_putF _ _ _)) (by decide)), ?_⟩
  have n5 : p5 ≠ a := fun z => by rw [z, a4] at hp5; cases hp5
  generalize e6 : upd H5 a _ = H6
  have k6 : ∀ c u, c ≠ a → H5 c = some u → H6 c = some u := fun c u n h => e6 ▸ (upd_ne n).trans h
  have a6 := L2.at_of e6
  clear e6
  have z6 : Same H0 H6 := fun c u h => k6 _ _ (n0 h) (s5 _ _ (z4 _ _ h))
  walk_at "go"
  refine ⟨b, pl, pp, las, pas, ls, _, _, _, rfl, B0.same z6, O.snd, fun l7 H7 s7 hl7 e7 => ?_⟩
  walk_at "go"
  refine ⟨a, _, dx, _, rfl, s7 _ _ a6, T.cl_Stage, T.n_Stage_sizes, Rm.few3, ?_⟩
  have n7 : l7 ≠ a := fun z => by rw [z, a6] at hl7; cases hl7
  generalize e8 : upd H7 a _ = H8
  have k8 : ∀ c u, c ≠ a → H7 c = some u → H8 c = some u := fun c u n h => e8 ▸ (upd_ne n).trans h
  have a8 := L2.at_of e8
  clear e8
  have z8 : Same H0 H8 := fun c u h => k8 _ _ (n0 h) (s7 _ _ (z6 _ _ h))
  walk_at "go"
  refine ⟨b, pl, pp, las, pas, ls, _, rfl, B0.same z8, W, fun l9 as E H9 s9 hl9 e9 na lE aE oE => ?_⟩
  have eE := O.ends lE oE
  subst eE
  walk_at "go"
  refine ⟨a, _, dx, _, rfl, s9 _ _ a8, T.cl_Stage, T.n_Stage_left, Rm.few4, ?_⟩
  have n9 : l9 ≠ a := fun z => by rw [z, a8] at hl9; cases hl9
  generalize e10 : upd H9 a _ = H10
  have k10 : ∀ c u, c ≠ a → H9 c = some u → H10 c = some u := fun c u n h => e10 ▸ (upd_ne n).trans h
  have a10 := L2.at_of e10
  clear e10
  have z10 : Same H0 H10 := fun c u h => k10 _ _ (n0 h) (s9 _ _ (z8 _ _ h))
  have w7 : ∀ c u, c ≠ a → H7 c = some u → H10 c = some u := fun c u n h => k10 _ _ n (s9 _ _ (k8 _ _ n h))
  walk_at "go"
  refine ⟨a, _, dx, _, _, rfl, a10, T.cl_Stage, T.n_Stage_sizes, (Rm.fld_ne (by decide +kernel)).trans Rm.fld_eq, ?_⟩
  walk_at "go"
  refine ⟨b, pl, pp, l7, las, pas, ls, _, rfl, B0.same z10, W, fun p hp => by rw [List.mem_singleton.mp hp]; exact O.ns, fun l11 as11 H11 s11 hl11 e11 la11 ha11 => ?_⟩
  walk_at "go"
  refine ⟨a, _, dx, _, rfl, s11 _ _ a10, T.cl_Stage, T.n_Stage_pieces, Rm.few5, ?_⟩
  have n11 : l11 ≠ a := fun z => by rw [z, a10] at hl11; cases hl11
  have k12 : ∀ c u, c ≠ a → H11 c = some u → upd H11 a (.ins t.c_Stage dx (Rm.fldS ⟨d, p3, p5, l7, l9, l11, [], [], []⟩)) c = some u := fun c u n h => (upd_ne n).trans h
  have u9 : ∀ c u, c ≠ a → H9 c = some u → upd H11 a (.ins t.c_Stage dx (Rm.fldS ⟨d, p3, p5, l7, l9, l11, [], [], []⟩)) c = some u := fun c u n h => k12 _ _ n (s11 _ _ (k10 _ _ n h))
  have u7 : ∀ c u, c ≠ a → H7 c = some u → _ = some u := fun c u n h => u9 _ _ n (s9 _ _ (k8 _ _ n h))
  have u5 : ∀ c u, c ≠ a → H5 c = some u → _ = some u := fun c u n h => u7 _ _ n (s7 _ _ (k6 _ _ n h))
  have u3 : ∀ c u, c ≠ a → H3 c = some u → _ = some u := fun c u n h => u5 _ _ n (s5 _ _ (k4 _ _ n h))
  have u1 : ∀ c u, c ≠ a → H1 c = some u → _ = some u := fun c u n h => u3 _ _ n (s3 _ _ (k2 _ _ n h))
  have s012 : Same H0 _ := fun c u h => u1 c u (n0 h) (s1 _ _ (z0 _ _ h))
  obtain ⟨q0, rfl⟩ := List.length_eq_one_iff.mp la11
  obtain ⟨e0, ee0, bs, hbs, prs⟩ := aE.get (i := 0) rfl
  have eas : as = [e0] := by
    obtain ⟨y, rfl⟩ := List.length_eq_one_iff.mp (show as.length = 1 from aE.1)
    exact congrArg (fun z => [z]) (Option.some.inj ee0)
  subst eas
  have nq : ∀ {c : Addr} {xs : List V}, H11 c = some (.lst xs) → c ≠ a := fun h z => by rw [z, s11 _ _ a10] at h; cases h
  have nt : ∀ {c : Addr} {xs : List V}, H9 c = some (.tup xs) → c ≠ a := fun h z => by rw [z, s9 _ _ a8] at h; cases h
  have nl : ∀ {c : Addr} {xs : List V}, H9 c = some (.lst xs) → c ≠ a := fun h z => by rw [z, s9 _ _ a8] at h; cases h
  obtain ⟨a0', ea', fb', hat', hf'⟩ := B0.pa.get (i := 0) rfl
  have efb : fb' = fb := by
    have ea2 : some a0' = some a0 := ea'.symm.trans ea
    cases ea2
    have := (z4 _ _ hat').symm.trans hat
    injection this with this
    injection this with this
    injection this with _ this
    injection this with this
    injection this
  subst efb
  exact q ⟨d, p3, p5, l7, l9, l11, [], [], []⟩ _ (fun c u n h => u1 _ _ n (s1 _ _ h)) ⟨⟨dx, upd_same⟩, u1 _ _ nd ed, u3 _ _ n3 t3, ⟨fb', u5 _ _ n5 t5, Rm.FormAt.same s012 hf'⟩, u7 _ _ n7 e7, ⟨e0, bs, u9 _ _ n9 e9, u9 _ _ (nl hbs) hbs, Rm.All2.mono prs fun c q h => u9 _ _ (nt h) h⟩, ⟨q0, k12 _ _ n11 e11, k12 _ _ (nq (ha11 q0 List.mem_cons_self)) (ha11 q0 List.mem_cons_self)⟩⟩
theorem ok_ramp (T : Txt K mg t) : FnOk P w K mg base CX0 1 t.a_ramp t.d_ramp ["start", "goal", "beats", "j"] (Pr.sp_ramp) := by
  refine T.F_ramp.ok sc_ramp (fun vs H Q E h => ?_) (fun cdv A outer s H vs Q E hr h => ?_)
  · obtain ⟨s0, g, b, j, rfl, hb, q⟩ := h
    rfl
  obtain ⟨s0, g, b, j, rfl, hb, q⟩ := h
  refine ⟨_, (pss_one (ps_ret (pe_op op_add (pv 0) (pe_op op_fdivB (pe_op op_mulB (pe_op op_sub (pv 1) (pv 0)) (pv 3)) (pv 2))))), ?_⟩
  refine rd_start (σ' := [some _, some _, some _, some _]) rfl ?_
  unfold Pr.B4 at hb
  walk_at "go"
  exact q
theorem ok_progress (T : Txt K mg t) : FnOk P w K mg base CX0 1 t.a_progress t.d_progress ["pieces", "sizes", "gone"] (Rm.sp_none1) := by
  refine T.F_progress.ok sc_progress (fun vs H Q E h => ?_) (fun cdv A outer s H vs Q E hr h => ?_)
  · obtain ⟨l, s0, t0, rfl, el, q⟩ := h
    rfl
  obtain ⟨l, s0, t0, rfl, el, q⟩ := h
  refine ⟨_, (pss_cons (ps_set (i := 3) sc_progress.nd rfl (.inl rfl) (pe_lst pa_nil))
    (pss_cons (ps_for PassesOwn.never rfl (pi_list (pv 0)) (pg_tup rfl (pgs_cons (pg_name (i := 4) sc_progress.nd rfl (.inl rfl)) (pgs_cons (pg_name (i := 5) sc_progress.nd rfl (.inl rfl)) (pgs_cons (pg_name (i := 6) sc_progress.nd rfl (.inl rfl)) pgs_nil))))
      (pss_one (ps_if (pt_cmpR op_le (pv 6) (pv 2) (nomark _))
        (pss_cons (ps_set (i := 7) sc_progress.nd rfl (.inl rfl) (pe_callB (call_min2 rfl) (by rfl) T.b_min bt_min (pa_cons (pe_op op_fdivB (pe_op op_sub (pv 2) (pv 6)) (pe_ix ix_list (pv 1) (pv 4) (fun _ _ => rfl))) (pa_cons (pv 5) pa_nil))))
        (pss_cons (ps_set (i := 8) sc_progress.nd rfl (.inl rfl) (pe_ifExp (pt_cmpR op_lt (pv 7) (pv 5) (nomark _)) (pe_op op_sub (pe_op op_sub (pv 2) (pv 6)) (pe_op op_mulB (pv 7) (pe_ix ix_list (pv 1) (pv 4) (fun _ _ => rfl)))) pe_non))
        (pss_one (ps_expr (pe_bm PySem.F.plainAttrs_list PySem.F.slot_list_append PySem.F.type_list_append mt_append (pv 3) (pa_cons (pe_tup (pa_cons (pv 4) (pa_cons (pv 6) (pa_cons (pv 7) (pa_cons (pv 8) pa_nil))))) pa_nil))))))
        pss_nil)))
    (pss_one (ps_ret (pv 3))))), ?_⟩
  refine rd_start (σ' := [some _, some _, some _, none, none, none, none, none, none]) rfl ?_
  walk_at "go"
  refine ⟨Nat.zero_le _, ?_⟩
  intro p hp; generalize eH : L2.upd _ p _ = H1; have s1 := L2.same_of hp eH; have e1 := L2.at_of eH; clear eH
  walk_at "go"
  refine ⟨l, rfl, ⟨_, SqL.of (s1 _ _ el)⟩, ?_⟩
  refine for_list (xs := []) (fun i σ H' => σ = [some (.ref l), some (.ref s0), some (.int t0), some (.ref p), none, none, none, none, none] ∧ H1 = H') ⟨rfl, rfl⟩ ?_ ?_ ?_
  · rintro i σ H' _ ⟨rfl, rfl⟩
    exact SqL.of (s1 _ _ el)
  · rintro i w σ H' hv
    simp at hv
  rintro σ' H' ⟨rfl, rfl⟩
  walk_at "go"
  exact q p _ s1 hp e1
theorem ok_within (T : Txt K mg t) (G_progress : FnOk P w K mg base CX0 1 t.a_progress t.d_progress ["pieces", "sizes", "gone"] (Rm.sp_none1)) : FnOk P w K mg base CX0 2 t.a_within t.d_within ["pieces", "sizes", "gone"] (Rm.sp_none1) := by
  refine T.F_within.ok sc_within (fun vs H Q E h => ?_) (fun cdv A outer s H vs Q E hr h => ?_)
  · obtain ⟨l, s0, t0, rfl, el, q⟩ := h
    rfl
  obtain ⟨l, s0, t0, rfl, el, q⟩ := h
  refine ⟨_, (pss_cons (ps_set (i := 3) sc_within.nd rfl (.inl rfl) (pe_lst pa_nil))
    (pss_cons (ps_for PassesOwn.never rfl (pi_list (pe_call (G_progress.mono (by decide)) hr (by rfl) T.m_progress T.F_progress.kp T.B_progress .nil pass0 (pa_cons (pv 0) (pa_cons (pv 1) (pa_cons (pv 2) pa_nil))))) (pg_tup rfl (pgs_cons (pg_name (i := 4) sc_within.nd rfl (.inl rfl)) (pgs_cons (pg_name (i := 5) sc_within.nd rfl (.inl rfl)) (pgs_cons (pg_name (i := 6) sc_within.nd rfl (.inl rfl)) (pgs_cons (pg_name (i := 7) sc_within.nd rfl (.inl rfl)) pgs_nil)))))
      (pss_cons (ps_ifJ (pt_cmpR op_gt (pv 6) pe_int (nomark _))
        (pss_one (ps_expr (pe_bm PySem.F.plainAttrs_list PySem.F.slot_list_append PySem.F.type_list_append mt_append (pv 3) (pa_cons (pe_tup (pa_cons (pv 4) (pa_cons (pe_ix ix_list (pv 1) (pv 4) (fun _ _ => rfl)) pa_nil))) pa_nil))))
        pss_nil)
      (pss_one (ps_if (pt_cmpR op_notN (pv 7) pe_non (nomark _))
        (pss_one (ps_expr (pe_bm PySem.F.plainAttrs_list PySem.F.slot_list_append PySem.F.type_list_append mt_append (pv 3) (pa_cons (pe_tup (pa_cons (pv 4) (pa_cons (pv 7) pa_nil))) pa_nil))))
        pss_nil))))
    (pss_one (ps_ret (pv 3))))), ?_⟩
  refine rd_start (σ' := [some _, some _, some _, none, none, none, none, none]) rfl ?_
  walk_at "go"
  refine ⟨Nat.zero_le _, ?_⟩
  intro p hp; generalize eH : L2.upd _ p _ = H1; have s1 := L2.same_of hp eH; have e1 := L2.at_of eH; clear eH
  walk_at "go"
  refine ⟨l, s0, t0, rfl, s1 _ _ el, fun l2 H2 s2 hl2 e2 => ?_⟩
  walk_at "go"
  refine ⟨l2, rfl, ⟨_, SqL.of e2⟩, ?_⟩
  refine for_list (xs := []) (fun i σ H' => σ = [some (.ref l), some (.ref s0), some (.int t0), some (.ref p), none, none, none, none] ∧ H2 = H') ⟨rfl, rfl⟩ ?_ ?_ ?_
  · rintro i σ H' _ ⟨rfl, rfl⟩
    exact SqL.of e2
  · rintro i w σ H' hv
    simp at hv
  rintro σ' H' ⟨rfl, rfl⟩
  walk_at "go"
  exact q p _ (s1.trans s2) hp (s2 _ _ e1)
theorem ok_Stage_scene (T : Txt K mg t) (G_within : FnOk P w K mg base CX0 2 t.a_within t.d_within ["pieces", "sizes", "gone"] (Rm.sp_none1)) : FnOk P w K mg base CX0 3 t.a_Stage_scene t.d_Stage_scene ["self", "beat"] (Rm.sp_scene1 t.c_Stage) := by
  refine T.F_Stage_scene.ok sc_Stage_scene (fun vs H Q E h => ?_) (fun cdv A outer s H vs Q E hr h => ?_)
  · obtain ⟨a, z, ls, x, f, j, rfl, A, O, j0, j1, q⟩ := h
    rfl
  obtain ⟨a, z, ls, x, f, j, rfl, A, O, j0, j1, q⟩ := h
  refine ⟨_, (pss_cons (ps_if (pt_not (pt_chain op_le op_le pe_int (pv 1) (pe_ix ix_list (pe_fld (pv 0) rfl) (pe_un un_neg pe_int) (fun _ _ => rfl))))
      (pss_one ps_never)
      pss_nil)
    (pss_cons (ps_set (i := 2) sc_Stage_scene.nd rfl (.inl rfl) (pe_callTy call_list_of (by rfl) T.b_list bt_list (pa_cons (pe_fld (pv 0) rfl) pa_nil)))
    (pss_cons (ps_set (i := 3) sc_Stage_scene.nd rfl (.inl rfl) (pe_lst pa_nil))
    (pss_cons (ps_set (i := 4) sc_Stage_scene.nd rfl (.inl rfl) (pe_lst (pa_cons (pe_tup (pa_cons (pe_op op_sub (pe_callB call_len (by rfl) T.b_len bt_len (pa_cons (pe_fld (pv 0) rfl) pa_nil)) pe_int) (pa_cons (pv 1) pa_nil))) pa_nil)))
    (pss_cons (ps_while PassesOwn.never (pt_tru (pv 4) (fun _ => rfl))
      (pss_cons (ps_set (i := 5) sc_Stage_scene.nd rfl (.inl rfl) (pe_bm0 PySem.F.plainAttrs_list PySem.F.slot_list_pop PySem.F.type_list_pop mt_pop (pv 4)))
      (pss_one (ps_if (pt_cmpR op_lt (pe_ix ix_tup (pv 5) pe_int (fun _ _ => rfl)) (pe_ix ix_list (pe_fld (pv 0) rfl) (pe_ix ix_tup (pv 5) pe_int (fun _ _ => rfl)) (fun _ _ => rfl)) (nomark _))
        (pss_cons (ps_expr (pe_bm PySem.F.plainAttrs_list PySem.F.slot_list_append PySem.F.type_list_append mt_append (pv 3) (pa_cons (pv 5) pa_nil)))
        (pss_one (ps_expr (pe_bm PySem.F.plainAttrs_list PySem.F.slot_list_extend PySem.F.type_list_extend mt_extend (pv 4) (pa_cons (pe_rev (pe_call (G_within.mono (by decide)) hr (by rfl) T.m_within T.F_within.kp T.B_within .nil pass0 (pa_cons (pe_ix ix_list (pe_fld (pv 0) rfl) (pe_ix ix_tup (pv 5) pe_int (fun _ _ => rfl)) (fun _ _ => rfl)) (pa_cons (pe_fld (pv 0) rfl) (pa_cons (pe_ix ix_tup (pv 5) pe_int (fun _ _ => rfl)) pa_nil)))) (po_some (pe_un un_neg pe_int))) pa_nil)))))
        (pss_one (ps_for PassesOwn.never rfl (pi_list (pe_ix ix_list (pe_fld (pv 0) rfl) (pe_ix ix_tup (pv 5) pe_int (fun _ _ => rfl)) (fun _ _ => rfl))) (pg_tup rfl (pgs_cons (pg_name (i := 6) sc_Stage_scene.nd rfl (.inl rfl)) (pgs_cons (pg_name (i := 7) sc_Stage_scene.nd rfl (.inl rfl)) pgs_nil)))
          (pss_one (ps_asg (pv 7) (pg_sub (pv 2) (pv 6) set_list)))))))))
    (pss_one (ps_ret (pe_tup (pa_cons (pv 2) (pa_cons (pv 3) pa_nil)))))))))), ?_⟩
  refine rd_start (σ' := [some _, some _, none, none, none, none, none, none]) rfl ?_
  have sz : (200 : Nat) < sizeLine := by decide
  have W := O.w
  have b1 := O.b1
  obtain ⟨dx, ob⟩ := A.ob
  walk_at "go"
  refine iteD (fun _ => ?_) (fun c => absurd j0 c)
  walk_at "go"
  refine ⟨a, _, dx, _, _, rfl, ob, T.cl_Stage, T.n_Stage_sizes, Rm.fld_sizes, ?_⟩
  walk_at "go"
  refine ⟨z.s, _, _, _, rfl, rfl, SqL.of A.hs, rfl, ?_⟩
  walk_at "go"
  refine iteN (fun z => absurd j1 z) (fun _ => ?_)
  walk_at "go"
  refine ⟨a, _, dx, _, _, rfl, ob, T.cl_Stage, T.n_Stage_first, Rm.fld_first, ?_⟩
  walk_at "go"
  refine ⟨z.f, _, rfl, .inl (SqL.of A.hf), ?_⟩
  intro p1 hp1; generalize eH : L2.upd _ p1 _ = H1; have s1 := L2.same_of hp1 eH; have t1 := L2.at_of eH; clear eH
  walk_at "go"
  refine ⟨Nat.zero_le _, ?_⟩
  intro p2 hp2; generalize eH : L2.upd _ p2 _ = H2; have s2 := L2.same_of hp2 eH; have t2 := L2.at_of eH; clear eH
  have s12 := s1.trans s2
  walk_at "go"
  refine ⟨a, _, dx, _, _, rfl, s12 _ _ ob, T.cl_Stage, T.n_Stage_sizes, Rm.fld_sizes, ?_⟩
  walk_at "go"
  refine ⟨_, _, rfl, .inl ⟨_, SqL.of (s12 _ _ A.hs), rfl⟩, ?_⟩
  walk_at "go"
  refine ⟨(by show 2 ≤ sizeLine; omega), ?_⟩
  intro p3 hp3; generalize eH : L2.upd _ p3 _ = H3; have s3 := L2.same_of hp3 eH; have t3 := L2.at_of eH; clear eH
  have s13 := s12.trans s3
  walk_at "go"
  refine ⟨(by show 1 ≤ sizeLine; omega), ?_⟩
  intro p4 hp4; generalize eH : L2.upd _ p4 _ = H4; have s4 := L2.same_of hp4 eH; have t4 := L2.at_of eH; clear eH
  have s14 := s13.trans s4
  have e0 : ((([V.int f.beats] : List V).length : Nat) : Int) - 1 = 0 := rfl
  rw [e0] at t3
  have t14 := s4 _ _ (s3 _ _ (s2 _ _ t1))
  have t24 := s4 _ _ (s3 _ _ t2)
  have t34 := s4 _ _ t3
  have n21 : p2 ≠ p1 := (ne_of_none t1 hp2).symm
  have n41 : p4 ≠ p1 := (ne_of_none (s3 _ _ (s2 _ _ t1)) hp4).symm
  have n42 : p4 ≠ p2 := (ne_of_none (s3 _ _ t2) hp4).symm
  have n31 : p3 ≠ p1 := (ne_of_none (s2 _ _ t1) hp3).symm
  have n32 : p3 ≠ p2 := (ne_of_none t2 hp3).symm
  have n34 : p3 ≠ p4 := ne_of_none t3 hp4
  have m1 : ∀ {c u}, H c = some u → c ≠ p1 := fun h => ne_of_none h hp1
  have m2 : ∀ {c u}, H c = some u → c ≠ p2 := fun h => ne_of_none (s1 _ _ h) hp2
  have m4 : ∀ {c u}, H c = some u → c ≠ p4 := fun h => ne_of_none (s13 _ _ h) hp4
  walk_at "go"
  refine ⟨fun m σ H' => (m = 1 ∧ σ = [some (.ref a), some (.int j), some (.ref p1), some (.ref p2), some (.ref p4), none, none, none] ∧ H4 = H') ∨ (m = 0 ∧ ∃ o5 o6 o7 : Option V, σ = [some (.ref a), some (.int j), some (.ref p1), some (.ref p2), some (.ref p4), o5, o6, o7] ∧ Same H H' ∧ H' p4 = some (.lst []) ∧
    (j < f.beats ∧ (∃ t, H' p1 = some (.lst ((ls.map (·.2)).map V.int)) ∧ H' p2 = some (.lst [.ref t]) ∧ H' t = some (.tup [.int 0, .int j])) ∨ j = f.beats ∧ H' p1 = some (.lst ((Rm.dueH ls f j).map V.int)) ∧ H' p2 = some (.lst []))), ⟨1, .inl ⟨rfl, rfl, rfl⟩⟩, ?_⟩
  rintro m σ H' (⟨rfl, rfl, rfl⟩ | ⟨rfl, o5, o6, o7, rfl, sm, u4, fin⟩)
  rotate_left
  · walk_at "go"
    refine ⟨_, .inl ⟨_, SqL.of u4, rfl⟩, ?_⟩
    refine iteF ?_
    walk_at "go"
    refine ⟨(by show 2 ≤ sizeLine; omega), ?_⟩
    intro p5 hp5; generalize eH : L2.upd _ p5 _ = H5; have s5 := L2.same_of hp5 eH; have t5 := L2.at_of eH; clear eH
    refine q p5 p1 p2 H5 (sm.trans s5) hp1 n21.symm t5 ?_
    rcases fin with ⟨c, t, h1, h2, h3⟩ | ⟨c, h1, h2⟩
    · exact .inl ⟨c, t, s5 _ _ h1, s5 _ _ h2, s5 _ _ h3⟩
    · exact .inr ⟨c, s5 _ _ h1, s5 _ _ h2⟩
  walk_at "go"
  refine ⟨_, .inl ⟨_, SqL.of t4, rfl⟩, ?_⟩
  refine iteT ?_
  refine ⟨fun σ H' => ∃ o5 o6 o7 : Option V, σ = [some (.ref a), some (.int j), some (.ref p1), some (.ref p2), some (.ref p4), o5, o6, o7] ∧ Same H H' ∧ H' p4 = some (.lst []) ∧
    (j < f.beats ∧ (∃ t, H' p1 = some (.lst ((ls.map (·.2)).map V.int)) ∧ H' p2 = some (.lst [.ref t]) ∧ H' t = some (.tup [.int 0, .int j])) ∨ j = f.beats ∧ H' p1 = some (.lst ((Rm.dueH ls f j).map V.int)) ∧ H' p2 = some (.lst [])), fun σ' H' h => ⟨0, by omega, .inr ⟨rfl, h⟩⟩, ?_⟩
  walk_at "go"
  refine ⟨.inl ⟨rfl, _, SqL.of t4⟩, ?_⟩
  refine ⟨p4, _, _, rfl, rfl, t4, rfl, ?_⟩
  rw [show ([V.ref p3] : List V).dropLast = [] from rfl]
  have s5 : Same H (upd H4 p4 (.lst [])) := fun c u h => (upd_ne (m4 h)).trans (s14 _ _ h)
  have u4 : upd H4 p4 (.lst []) p4 = some (.lst []) := upd_same
  have u1 := (upd_ne (o := HO.lst []) n41.symm).trans t14
  have u2 := (upd_ne (o := HO.lst []) n42.symm).trans t24
  have u3 := (upd_ne (o := HO.lst []) n34).trans t34
  generalize upd H4 p4 (.lst []) = H5 at s5 u4 u1 u2 u3 ⊢
  walk_at "go"
  refine ⟨p3, _, _, _, rfl, rfl, SqT.of u3, rfl, ?_⟩
  walk_at "go"
  refine ⟨a, _, dx, _, _, rfl, s5 _ _ ob, T.cl_Stage, T.n_Stage_sizes, Rm.fld_sizes, ?_⟩
  walk_at "go"
  refine ⟨p3, _, _, _, rfl, rfl, SqT.of u3, rfl, ?_⟩
  walk_at "go"
  refine ⟨z.s, _, _, _, rfl, rfl, SqL.of (s5 _ _ A.hs), rfl, ?_⟩
  walk_at "go"
  refine iteD (fun c => ?_) (fun c => ?_)
  · walk_at "go"
    refine ⟨.inl ⟨rfl, _, SqL.of u2⟩, ?_⟩
    walk_at "go"
    refine ⟨p2, _, _, rfl, rfl, u2, by show 0 < sizeLine; omega, ?_⟩
    have s6 : Same H (upd H5 p2 (.lst [.ref p3])) := fun c u h => (upd_ne (m2 h)).trans (s5 _ _ h)
    have v2 : upd H5 p2 (.lst [.ref p3]) p2 = some (.lst [.ref p3]) := upd_same
    have v1 := (upd_ne (o := HO.lst [.ref p3]) n21.symm).trans u1
    have v3 := (upd_ne (o := HO.lst [.ref p3]) n32).trans u3
    have v4 := (upd_ne (o := HO.lst [.ref p3]) n42).trans u4
    rw [show ([] : List V) ++ [.ref p3] = [.ref p3] from rfl]
    generalize upd H5 p2 (.lst [.ref p3]) = H6 at s6 v1 v2 v3 v4 ⊢
    obtain ⟨q0, eq0, hq0⟩ := A.hp
    walk_at "go"
    refine ⟨.inl ⟨rfl, _, SqL.of v4⟩, ?_⟩
    walk_at "go"
    refine ⟨a, _, dx, _, _, rfl, s6 _ _ ob, T.cl_Stage, T.n_Stage_pieces, Rm.fld_pieces, ?_⟩
    walk_at "go"
    refine ⟨p3, _, _, _, rfl, rfl, SqT.of v3, rfl, ?_⟩
    walk_at "go"
    refine ⟨z.p, _, _, _, rfl, rfl, SqL.of (s6 _ _ eq0), rfl, ?_⟩
    walk_at "go"
    refine ⟨a, _, dx, _, _, rfl, s6 _ _ ob, T.cl_Stage, T.n_Stage_sizes, Rm.fld_sizes, ?_⟩
    walk_at "go"
    refine ⟨p3, _, _, _, rfl, rfl, SqT.of v3, rfl, ?_⟩
    walk_at "go"
    refine ⟨q0, z.s, j, rfl, s6 _ _ hq0, fun lw H7 s7 hlw ew => ?_⟩
    walk_at "go"
    refine ⟨rfl, lw, _, rfl, SqL.of ew, ?_⟩
    intro lr hlr; generalize eH : L2.upd _ lr _ = H8; have s8 := L2.same_of hlr eH; have e8 := L2.at_of eH; clear eH
    have s68 := s7.trans s8
    refine ⟨p4, lr, _, _, rfl, rfl, s68 _ _ v4, e8, by show 0 ≤ _; omega, ?_⟩
    have n14 : p1 ≠ p4 := n41.symm
    refine ⟨_, _, _, rfl, fun c u h => (upd_ne (m4 h)).trans (s68 _ _ (s6 _ _ h)), upd_same, .inl ⟨c, p3, (upd_ne n14).trans (s68 _ _ v1), (upd_ne n42.symm).trans (s68 _ _ v2), (upd_ne n34).trans (s68 _ _ v3)⟩⟩
  · have ej : j = f.beats := by omega
    obtain ⟨e1, bs, ee1, hbs, prs⟩ := A.hl
    have hbs5 := s5 _ _ hbs
    walk_at "go"
    refine ⟨a, _, dx, _, _, rfl, s5 _ _ ob, T.cl_Stage, T.n_Stage_left, Rm.fld_left, ?_⟩
    walk_at "go"
    refine ⟨p3, _, _, _, rfl, rfl, SqT.of u3, rfl, ?_⟩
    walk_at "go"
    refine ⟨z.l, _, _, _, rfl, rfl, SqL.of (s5 _ _ ee1), rfl, ?_⟩
    refine ⟨e1, rfl, ⟨_, SqL.of hbs5⟩, ?_⟩
    by_cases hr' : ∃ y v n, f = .rise y v n
    · obtain ⟨y, v, n, rfl⟩ := hr'
      obtain ⟨k, hk⟩ := W.r 0 x y v n rfl
      have ek := Rm.ixOf_at W.ln hk
      have kl : k < ls.length := by have := (List.getElem?_eq_some_iff.mp hk).1; rw [Rm.nmsOf, List.length_map] at this; exact this
      obtain ⟨c0, rfl⟩ : ∃ c0, bs = [c0] := List.length_eq_one_iff.mp prs.1
      have hc0 : H5 c0 = some (.tup [.int (Rm.ixOf (Rm.nmsOf ls) y : Nat), .int v]) := s5 _ _ (prs.2 0 c0 _ rfl rfl)
      rw [ek] at hc0
      have due : Rm.dueH ls (.rise y v n) j = (ls.map (·.2)).set k v := by
        show (ls.map (·.2)).set (Rm.ixOf (Rm.nmsOf ls) y) (Rp.ramp _ v n j) = _
        rw [ek]
        congr 1
        rw [ej]
        show Rp.ramp _ v n n = v
        have n1 : 1 ≤ n := b1
        unfold Rp.ramp
        rw [Int.mul_ediv_cancel _ (by omega)]
        omega
      refine for_list (xs := [.ref c0]) (fun i σ H' => (i = 0 ∧ σ = [some (.ref a), some (.int j), some (.ref p1), some (.ref p2), some (.ref p4), some (.ref p3), none, none] ∧ H5 = H') ∨ (i = 1 ∧ ∃ o6 o7 : Option V, σ = [some (.ref a), some (.int j), some (.ref p1), some (.ref p2), some (.ref p4), some (.ref p3), o6, o7] ∧ Same H H' ∧ H' p4 = some (.lst []) ∧ H' p1 = some (.lst ((Rm.dueH ls (.rise y v n) j).map V.int)) ∧ H' p2 = some (.lst []))) (.inl ⟨rfl, rfl, rfl⟩) ?_ ?_ ?_
      · rintro i σ H' _ (⟨rfl, rfl, rfl⟩ | ⟨rfl, o6, o7, rfl, sm, _⟩)
        · exact SqL.of hbs5
        · exact SqL.of (sm _ _ hbs)
      · rintro i w σ H' hv (⟨rfl, rfl, rfl⟩ | ⟨rfl, _⟩)
        rotate_left
        · simp at hv
        have ev : w = .ref c0 := by simpa using hv.symm
        subst ev
        refine rd_gT2 (SqT.of hc0) ?_
        walk_at "go"
        refine ⟨p1, _, _, k, rfl, rfl, u1, by unfold ixN; simp [kl], ?_⟩
        refine .inr ⟨rfl, _, _, rfl, fun c u h => (upd_ne (m1 h)).trans (s5 _ _ h), (upd_ne n41).trans u4, upd_same.trans ?_, (upd_ne n21).trans u2⟩
        rw [due, List.map_set]
      rintro σ' H' (⟨h, _⟩ | ⟨_, o6, o7, rfl, sm, h4, h1, h2⟩)
      · cases h
      exact ⟨_, _, _, rfl, sm, h4, .inr ⟨ej, h1, h2⟩⟩
    · have hk0 : Rm.kv0 ls f = [] := Rm.kv0_not fun y v n e => hr' ⟨y, v, n, e⟩
      have due : Rm.dueH ls f j = ls.map (·.2) := by
        rcases O.s with ⟨n, rfl⟩ | ⟨y, n, rfl⟩ | ⟨y, v, n, rfl, _⟩
        · rfl
        · rfl
        · exact absurd ⟨y, v, n, rfl⟩ hr'
      have eb : bs = [] := by
        have := prs.1
        rw [hk0] at this
        exact List.length_eq_zero_iff.mp this
      subst eb
      refine for_list (xs := []) (fun i σ H' => σ = [some (.ref a), some (.int j), some (.ref p1), some (.ref p2), some (.ref p4), some (.ref p3), none, none] ∧ H5 = H') ⟨rfl, rfl⟩ ?_ ?_ ?_
      · rintro i σ H' _ ⟨rfl, rfl⟩
        exact SqL.of hbs5
      · rintro i w σ H' hv
        simp at hv
      rintro σ' H' ⟨rfl, rfl⟩
      exact ⟨_, _, _, rfl, s5, u4, .inr ⟨ej, by rw [due]; exact u1, u2⟩⟩
theorem ok_Stage_heights_at (T : Txt K mg t) (G_ramp : FnOk P w K mg base CX0 1 t.a_ramp t.d_ramp ["start", "goal", "beats", "j"] (Pr.sp_ramp)) (G_Stage_scene : FnOk P w K mg base CX0 3 t.a_Stage_scene t.d_Stage_scene ["self", "beat"] (Rm.sp_scene1 t.c_Stage)) : FnOk P w K mg base CX0 4 t.a_Stage_heights_at t.d_Stage_heights_at ["self", "beat"] (Rm.sp_heights1 t.c_Stage) := by
  refine T.F_Stage_heights_at.ok sc_Stage_heights_at (fun vs H Q E h => ?_) (fun cdv A outer s H vs Q E hr h => ?_)
  · obtain ⟨a, z, ls, x, f, j, rfl, A, O, j0, j1, q⟩ := h
    rfl
  obtain ⟨a, z, ls, x, f, j, rfl, A, O, j0, j1, q⟩ := h
  refine ⟨_, (pss_cons (ps_set (i := 2) sc_Stage_heights_at.nd rfl (.inl rfl) (pe_meth (pv 0) T.cl_Stage T.me_Stage_scene (G_Stage_scene.mono (by decide)) hr T.B_Stage_scene .nil pass0 (pa_cons (pv 1) pa_nil)))
    (pss_cons (ps_set (i := 3) sc_Stage_heights_at.nd rfl (.inl rfl) (pe_ix ix_tup (pv 2) pe_int (fun _ _ => rfl)))
    (pss_cons (ps_for PassesOwn.never rfl (pi_list (pe_ix ix_tup (pv 2) pe_int (fun _ _ => rfl))) (pg_tup rfl (pgs_cons (pg_name (i := 4) sc_Stage_heights_at.nd rfl (.inl rfl)) (pgs_cons (pg_name (i := 5) sc_Stage_heights_at.nd rfl (.inl rfl)) pgs_nil)))
      (pss_cons (ps_set (i := 6) sc_Stage_heights_at.nd rfl (.inl rfl) (pe_ix ix_list (pe_fld (pv 0) rfl) (pv 4) (fun _ _ => rfl)))
      (pss_one (ps_if (pt_cmpR op_eq (pe_ix ix_tup (pv 6) pe_int (fun _ _ => rfl)) pe_str (nomark _))
        (pss_cons (ps_set (i := 7) sc_Stage_heights_at.nd rfl (.inl rfl) (pe_dget (hu_of hr) (pe_fld (pv 0) rfl) (pe_ix ix_tup (pv 6) pe_int (fun _ _ => rfl)) (fun _ _ => rfl)))
        (pss_one (ps_asg (pe_call (G_ramp.mono (by decide)) hr (by rfl) T.m_ramp T.F_ramp.kp T.B_ramp .nil pass0 (pa_cons (pe_ix ix_list (pv 3) (pv 7) (fun _ _ => rfl)) (pa_cons (pe_ix ix_tup (pv 6) pe_int (fun _ _ => rfl)) (pa_cons (pe_ix ix_tup (pv 6) pe_int (fun _ _ => rfl)) (pa_cons (pv 5) pa_nil))))) (pg_sub (pv 3) (pv 7) set_list))))
        pss_nil))))
    (pss_one (ps_ret (pv 3)))))), ?_⟩
  refine rd_start (σ' := [some _, some _, none, none, none, none, none, none]) rfl ?_
  have sz : (200 : Nat) < sizeLine := by decide
  have W := O.w
  have b1 := O.b1
  have b2 := O.b2
  obtain ⟨dx, ob⟩ := A.ob
  walk_at "go"
  refine ⟨a, dx, _, rfl, ob, Rm.fld_no (by decide +kernel) (by decide +kernel) (by decide +kernel) (by decide +kernel) (by decide +kernel) (by decide +kernel), ?_⟩
  walk_at "go"
  refine ⟨a, z, ls, x, f, j, rfl, A, O, j0, j1, fun r l1 l2 H1 s1 hl1 n12 er fin => ?_⟩
  walk_at "go"
  refine ⟨r, _, _, _, rfl, rfl, SqT.of er, rfl, ?_⟩
  walk_at "go"
  refine ⟨r, _, _, _, rfl, rfl, SqT.of er, rfl, ?_⟩
  rcases fin with ⟨c, t, h1, h2, h3⟩ | ⟨c, h1, h2⟩
  rotate_left
  · refine ⟨l2, rfl, ⟨_, SqL.of h2⟩, ?_⟩
    refine for_list (xs := []) (fun i σ H' => σ = [some (.ref a), some (.int j), some (.ref r), some (.ref l1), none, none, none, none] ∧ H1 = H') ⟨rfl, rfl⟩ ?_ ?_ ?_
    · rintro i σ H' _ ⟨rfl, rfl⟩
      exact SqL.of h2
    · rintro i w σ H' hv
      simp at hv
    rintro σ' H' ⟨rfl, rfl⟩
    walk_at "go"
    exact q _ _ s1 h1
  have m1 : ∀ {c u}, H c = some u → c ≠ l1 := fun h => ne_of_none h hl1
  obtain ⟨fb, eo, hf⟩ := A.ho
  have hf1 := Rm.FormAt.same s1 hf
  refine ⟨l2, rfl, ⟨_, SqL.of h2⟩, ?_⟩
  refine for_list (xs := [.ref t]) (fun i σ H' => (i = 0 ∧ σ = [some (.ref a), some (.int j), some (.ref r), some (.ref l1), none, none, none, none] ∧ H1 = H') ∨ (i = 1 ∧ ∃ o4 o5 o6 o7 : Option V, σ = [some (.ref a), some (.int j), some (.ref r), some (.ref l1), o4, o5, o6, o7] ∧ Same H H' ∧ H' l2 = some (.lst [.ref t]) ∧ H' l1 = some (.lst ((Rm.dueH ls f j).map V.int)))) (.inl ⟨rfl, rfl, rfl⟩) ?_ ?_ ?_
  · rintro i σ H' _ (⟨rfl, rfl, rfl⟩ | ⟨rfl, o4, o5, o6, o7, rfl, sm, e4, _⟩)
    · exact SqL.of h2
    · exact SqL.of e4
  · rintro i v σ H' hv (⟨rfl, rfl, rfl⟩ | ⟨rfl, _⟩)
    rotate_left
    · simp at hv
    have ev : v = .ref t := by simpa using hv.symm
    subst ev
    refine rd_gT2 (SqT.of h3) ?_
    walk_at "go"
    refine ⟨a, _, dx, _, _, rfl, s1 _ _ ob, T.cl_Stage, T.n_Stage_forms, Rm.fld_forms, ?_⟩
    walk_at "go"
    refine ⟨z.o, _, _, _, rfl, rfl, SqL.of (s1 _ _ eo), rfl, ?_⟩
    walk_at "go"
    by_cases hr' : ∃ y v n, f = .rise y v n
    · obtain ⟨y, v, n, rfl⟩ := hr'
      obtain ⟨k, hk⟩ := W.r 0 x y v n rfl
      have ek := Rm.ixOf_at W.ln hk
      have kl : k < ls.length := by have := (List.getElem?_eq_some_iff.mp hk).1; rw [Rm.nmsOf, List.length_map] at this; exact this
      have hf6 : H1 fb = some (.tup [.str "raise", .str y, .int v, .int n]) := hf1
      refine ⟨fb, _, _, _, rfl, rfl, SqT.of hf6, rfl, ?_⟩
      walk_at "go"
      refine Rm.iteB1 (by decide +kernel) ?_
      walk_at "go"
      refine ⟨a, _, dx, _, _, rfl, s1 _ _ ob, T.cl_Stage, T.n_Stage_limbs, Rm.fld_limbs, ?_⟩
      walk_at "go"
      refine ⟨fb, _, _, _, rfl, rfl, SqT.of hf6, rfl, ?_⟩
      have g : DGet H1 z.d (.str y) (some (.int (k : Nat))) := by
        have g := DGet.k (k := Sum.inr y) (s1 _ _ A.hd)
        rw [Rm.numK_val W.ln hk] at g
        exact g
      refine ⟨z.d, _, rfl, g, ?_⟩
      walk_at "go"
      have hh : (ls.map (·.2))[k]? = some ((ls.map (·.2)).getD k 0) := by rw [List.getD_eq_getElem?_getD, List.getElem?_eq_getElem (by rw [List.length_map]; exact kl)]; rfl
      refine ⟨l1, _, _, _, rfl, rfl, SqL.of h1, atI_nat (j := k) (by rw [List.getElem?_map, hh]; rfl), ?_⟩
      walk_at "go"
      refine ⟨fb, _, _, _, rfl, rfl, SqT.of hf6, rfl, ?_⟩
      walk_at "go"
      refine ⟨fb, _, _, _, rfl, rfl, SqT.of hf6, rfl, ?_⟩
      walk_at "go"
      have hb := List.mem_of_getElem? hh
      obtain ⟨q0, hq0, eq0⟩ := List.mem_map.mp hb
      have h0 := O.h q0 hq0
      rw [eq0] at h0
      have v18 : 0 ≤ v ∧ v ≤ 10 ^ 18 := by
        rcases O.s with ⟨n', e⟩ | ⟨y', n', e⟩ | ⟨y', v', n', e, hv⟩
        · cases e
        · cases e
        · injection e with _ e _; subst e; exact hv
      have n1 : 1 ≤ n := b1
      have n2 : n ≤ 10 ^ 18 := b2
      have j2 : j ≤ n := j1
      refine ⟨_, _, _, _, rfl, by unfold Pr.B4; omega, ?_⟩
      walk_at "go"
      refine ⟨l1, _, _, k, rfl, rfl, h1, by unfold ixN; simp [kl], ?_⟩
      refine .inr ⟨rfl, _, _, _, _, rfl, fun c u h => (upd_ne (m1 h)).trans (s1 _ _ h), (upd_ne n12.symm).trans h2, upd_same.trans ?_⟩
      show _ = some (HO.lst (((ls.map (·.2)).set (Rm.ixOf (Rm.nmsOf ls) y) (Rp.ramp ((ls.map (·.2)).getD (Rm.ixOf (Rm.nmsOf ls) y) 0) v n j)).map V.int))
      rw [ek, List.map_set]
    · obtain ⟨k, xs, hk, dk⟩ := Rm.kind_not hf1 fun y v n e => hr' ⟨y, v, n, e⟩
      refine ⟨fb, _, _, _, rfl, rfl, SqT.of hk, Rm.at0, ?_⟩
      walk_at "go"
      refine Rm.iteB0 dk ?_
      walk_at "go"
      have due : Rm.dueH ls f j = ls.map (·.2) := by
        rcases O.s with ⟨n, rfl⟩ | ⟨y, n, rfl⟩ | ⟨y, v, n, rfl, _⟩
        · rfl
        · rfl
        · exact absurd ⟨y, v, n, rfl⟩ hr'
      exact .inr ⟨rfl, _, _, _, _, rfl, s1, h2, by rw [due]; exact h1⟩
  rintro σ' H' (⟨h, _⟩ | ⟨_, o4, o5, o6, o7, rfl, sm, e4, e5⟩)
  · cases h
  walk_at "go"
  exact q _ _ sm e5
theorem ok_stand (T : Txt K mg t) (G_Stage___init__ : FnOk P w K mg base CX0 6 t.a_Stage___init__ t.d_Stage___init__ ["self", "book"] (Rm.sp_init1 t.c_Stage)) (G_Stage_heights_at : FnOk P w K mg base CX0 4 t.a_Stage_heights_at t.d_Stage_heights_at ["self", "beat"] (Rm.sp_heights1 t.c_Stage)) : FnOk P w K mg base CX0 8 t.a_stand t.d_stand ["book", "beat"] (Rm.sp_stand1) := by
  refine T.F_stand.ok sc_stand (fun vs H Q E h => ?_) (fun cdv A outer s H vs Q E hr h => ?_)
  · obtain ⟨b, pl, pp, las, pas, ls, x, f, j, rfl, B, O, j0, j1, q⟩ := h
    rfl
  obtain ⟨b, pl, pp, las, pas, ls, x, f, j, rfl, B, O, j0, j1, q⟩ := h
  refine ⟨_, (pss_one (ps_ret (pe_meth (pe_make T.M_Stage (G_Stage___init__.mono (by decide)) hr (by rfl) T.mg_Stage T.B_Stage___init__ .nil pass0 (pa_cons (pv 0) pa_nil)) T.cl_Stage T.me_Stage_heights_at (G_Stage_heights_at.mono (by decide)) hr T.B_Stage_heights_at .nil pass0 (pa_cons (pv 1) pa_nil)))), ?_⟩
  refine rd_start (σ' := [some _, some _]) rfl ?_
  walk_at "go"
  intro o dx ho hdx ne
  have s0 : Same H (upd (upd H dx (.own o)) o (.ins t.c_Stage dx [])) := fun c u h => (upd_ne (ne_of_none h ho)).trans ((upd_ne (ne_of_none h hdx)).trans h)
  refine ⟨o, dx, b, pl, pp, las, pas, ls, x, f, rfl, upd_same, B.same s0, O, fun z H1 k1 A => ⟨rfl, ?_⟩⟩
  obtain ⟨dy, ob⟩ := A.ob
  refine ⟨o, dy, _, rfl, ob, Rm.fld_no (by decide +kernel) (by decide +kernel) (by decide +kernel) (by decide +kernel) (by decide +kernel) (by decide +kernel), ?_⟩
  walk_at "go"
  refine ⟨o, z, ls, x, f, j, rfl, A, O, j0, j1, fun l H2 s2 e2 => ?_⟩
  exact q l H2 (fun c u h => s2 _ _ (k1 _ _ (ne_of_none h ho) (s0 _ _ h))) e2
theorem ok_Stage_words_at (T : Txt K mg t) (G_Stage_scene : FnOk P w K mg base CX0 3 t.a_Stage_scene t.d_Stage_scene ["self", "beat"] (Rm.sp_scene1 t.c_Stage)) : FnOk P w K mg base CX0 4 t.a_Stage_words_at t.d_Stage_words_at ["self", "beat"] (Rm.sp_words1 t.c_Stage) := by
  refine T.F_Stage_words_at.ok sc_Stage_words_at (fun vs H Q E h => ?_) (fun cdv A outer s H vs Q E hr h => ?_)
  · obtain ⟨a, z, ls, x, f, j, rfl, A, O, j0, j1, q⟩ := h
    rfl
  obtain ⟨a, z, ls, x, f, j, rfl, A, O, j0, j1, q⟩ := h
  refine ⟨_, (pss_cons (ps_set (i := 2) sc_Stage_words_at.nd rfl (.inl rfl) (pe_lst pa_nil))
    (pss_cons (ps_for PassesOwn.never rfl (pi_list (pe_ix ix_tup (pe_meth (pv 0) T.cl_Stage T.me_Stage_scene (G_Stage_scene.mono (by decide)) hr T.B_Stage_scene .nil pass0 (pa_cons (pv 1) pa_nil)) pe_int (fun _ _ => rfl))) (pg_tup rfl (pgs_cons (pg_name (i := 3) sc_Stage_words_at.nd rfl (.inl rfl)) (pgs_cons (pg_name (i := 4) sc_Stage_words_at.nd rfl (.inl rfl)) pgs_nil)))
      (pss_cons (ps_set (i := 5) sc_Stage_words_at.nd rfl (.inl rfl) (pe_ix ix_list (pe_fld (pv 0) rfl) (pv 3) (fun _ _ => rfl)))
      (pss_one (ps_if (pw_and (pt_cmpR op_eq (pe_ix ix_tup (pv 5) pe_int (fun _ _ => rfl)) pe_str (nomark _)) (pw_and1 (pt_cmpR op_eq (pv 4) pe_int (nomark _)))).pt
        (pss_one (ps_expr (pe_bm PySem.F.plainAttrs_list PySem.F.slot_list_append PySem.F.type_list_append mt_append (pv 2) (pa_cons (pe_ix ix_tup (pv 5) pe_int (fun _ _ => rfl)) pa_nil))))
        pss_nil))))
    (pss_one (ps_ret (pv 2))))), ?_⟩
  refine rd_start (σ' := [some _, some _, none, none, none, none]) rfl ?_
  have sz : (200 : Nat) < sizeLine := by decide
  have b1 := O.b1
  obtain ⟨dx, ob⟩ := A.ob
  walk_at "go"
  refine ⟨Nat.zero_le _, ?_⟩
  intro p1 hp1; generalize eH : L2.upd _ p1 _ = H0; have s0 := L2.same_of hp1 eH; have t1 := L2.at_of eH; clear eH
  walk_at "go"
  refine ⟨a, dx, _, rfl, s0 _ _ ob, Rm.fld_no (by decide +kernel) (by decide +kernel) (by decide +kernel) (by decide +kernel) (by decide +kernel) (by decide +kernel), ?_⟩
  walk_at "go"
  refine ⟨a, z, ls, x, f, j, rfl, A.same s0, O, j0, j1, fun r l1 l2 H1 s1 hl1 n12 er fin => ?_⟩
  have s01 := s0.trans s1
  have t13 := s1 _ _ t1
  have m1 : ∀ {c u}, H c = some u → c ≠ p1 := fun h => ne_of_none h hp1
  walk_at "go"
  refine ⟨r, _, _, _, rfl, rfl, SqT.of er, rfl, ?_⟩
  rcases fin with ⟨c, t, h1, h2, h3⟩ | ⟨c, h1, h2⟩
  rotate_left
  · refine ⟨l2, rfl, ⟨_, SqL.of h2⟩, ?_⟩
    refine for_list (xs := []) (fun i σ H' => σ = [some (.ref a), some (.int j), some (.ref p1), none, none, none] ∧ H1 = H') ⟨rfl, rfl⟩ ?_ ?_ ?_
    · rintro i σ H' _ ⟨rfl, rfl⟩
      exact SqL.of h2
    · rintro i w σ H' hv
      simp at hv
    rintro σ' H' ⟨rfl, rfl⟩
    walk_at "go"
    refine q _ _ s01 (t13.trans ?_)
    have : Rm.dueW f j = [] := by
      unfold Rm.dueW
      split
      · rw [if_neg (by omega)]
      · rfl
    rw [this]
    rfl
  have nl : l2 ≠ p1 := fun e => by rw [e, t13] at h2; cases h2
  obtain ⟨fb, eo, hf⟩ := A.ho
  have hf3 := Rm.FormAt.same s01 hf
  refine ⟨l2, rfl, ⟨_, SqL.of h2⟩, ?_⟩
  refine for_list (xs := [.ref t]) (fun i σ H' => (i = 0 ∧ σ = [some (.ref a), some (.int j), some (.ref p1), none, none, none] ∧ H1 = H') ∨ (i = 1 ∧ ∃ o3 o4 o5 : Option V, σ = [some (.ref a), some (.int j), some (.ref p1), o3, o4, o5] ∧ Same H H' ∧ H' l2 = some (.lst [.ref t]) ∧ H' p1 = some (.lst ((Rm.dueW f j).map V.str)))) (.inl ⟨rfl, rfl, rfl⟩) ?_ ?_ ?_
  · rintro i σ H' _ (⟨rfl, rfl, rfl⟩ | ⟨rfl, o3, o4, o5, rfl, sm, e4, _⟩)
    · exact SqL.of h2
    · exact SqL.of e4
  · rintro i v σ H' hv (⟨rfl, rfl, rfl⟩ | ⟨rfl, _⟩)
    rotate_left
    · simp at hv
    have ev : v = .ref t := by simpa using hv.symm
    subst ev
    refine rd_gT2 (SqT.of h3) ?_
    walk_at "go"
    refine ⟨a, _, dx, _, _, rfl, s01 _ _ ob, T.cl_Stage, T.n_Stage_forms, Rm.fld_forms, ?_⟩
    walk_at "go"
    refine ⟨z.o, _, _, _, rfl, rfl, SqL.of (s01 _ _ eo), rfl, ?_⟩
    walk_at "go"
    rcases O.s with ⟨n, rfl⟩ | ⟨y, n, rfl⟩ | ⟨y, v, n, rfl, _⟩
    · have hf3 : H1 fb = some (.tup [.str "hold", .int n]) := hf3
      refine ⟨fb, _, _, _, rfl, rfl, SqT.of hf3, rfl, ?_⟩
      walk_at "go"
      refine Rm.iteB0 (by decide +kernel) ?_
      walk_at "go"
      exact .inr ⟨rfl, _, _, _, rfl, s01, h2, t13⟩
    · have hf3 : H1 fb = some (.tup [.str "ring", .str y, .int n]) := hf3
      refine ⟨fb, _, _, _, rfl, rfl, SqT.of hf3, rfl, ?_⟩
      walk_at "go"
      refine Rm.iteB1 (by decide +kernel) ?_
      walk_at "go"
      refine iteD (fun c => ?_) (fun c => ?_)
      · walk_at "go"
        refine ⟨.inl ⟨rfl, _, SqL.of t13⟩, ?_⟩
        walk_at "go"
        refine ⟨fb, _, _, _, rfl, rfl, SqT.of hf3, rfl, ?_⟩
        refine ⟨p1, _, _, rfl, rfl, t13, by show 0 < sizeLine; omega, ?_⟩
        refine .inr ⟨rfl, _, _, _, rfl, fun c u h => (upd_ne (m1 h)).trans (s01 _ _ h), (upd_ne nl).trans h2, upd_same.trans ?_⟩
        show _ = some (HO.lst ((if j = 0 then [y] else []).map V.str))
        rw [if_pos c]
        rfl
      · walk_at "go"
        refine .inr ⟨rfl, _, _, _, rfl, s01, h2, ?_⟩
        show _ = some (HO.lst ((if j = 0 then [y] else []).map V.str))
        rw [if_neg c]
        exact t13
    · have hf3 : H1 fb = some (.tup [.str "raise", .str y, .int v, .int n]) := hf3
      refine ⟨fb, _, _, _, rfl, rfl, SqT.of hf3, rfl, ?_⟩
      walk_at "go"
      refine Rm.iteB0 (by decide +kernel) ?_
      walk_at "go"
      exact .inr ⟨rfl, _, _, _, rfl, s01, h2, t13⟩
  rintro σ' H' (⟨h, _⟩ | ⟨_, o3, o4, o5, rfl, sm, e4, e5⟩)
  · cases h
  walk_at "go"
  exact q _ _ sm e5
theorem ok_rings (T : Txt K mg t) (G_Stage___init__ : FnOk P w K mg base CX0 6 t.a_Stage___init__ t.d_Stage___init__ ["self", "book"] (Rm.sp_init1 t.c_Stage)) (G_Stage_words_at : FnOk P w K mg base CX0 4 t.a_Stage_words_at t.d_Stage_words_at ["self", "beat"] (Rm.sp_words1 t.c_Stage)) : FnOk P w K mg base CX0 8 t.a_rings t.d_rings ["book", "beat"] (Rm.sp_rings1) := by
  refine T.F_rings.ok sc_rings (fun vs H Q E h => ?_) (fun cdv A outer s H vs Q E hr h => ?_)
  · obtain ⟨b, pl, pp, las, pas, ls, x, f, j, rfl, B, O, j0, j1, q⟩ := h
    rfl
  obtain ⟨b, pl, pp, las, pas, ls, x, f, j, rfl, B, O, j0, j1, q⟩ := h
  refine ⟨_, (pss_one (ps_ret (pe_meth (pe_make T.M_Stage (G_Stage___init__.mono (by decide)) hr (by rfl) T.mg_Stage T.B_Stage___init__ .nil pass0 (pa_cons (pv 0) pa_nil)) T.cl_Stage T.me_Stage_words_at (G_Stage_words_at.mono (by decide)) hr T.B_Stage_words_at .nil pass0 (pa_cons (pv 1) pa_nil)))), ?_⟩
  refine rd_start (σ' := [some _, some _]) rfl ?_
  walk_at "go"
  intro o dx ho hdx ne
  have s0 : Same H (upd (upd H dx (.own o)) o (.ins t.c_Stage dx [])) := fun c u h => (upd_ne (ne_of_none h ho)).trans ((upd_ne (ne_of_none h hdx)).trans h)
  refine ⟨o, dx, b, pl, pp, las, pas, ls, x, f, rfl, upd_same, B.same s0, O, fun z H1 k1 A => ⟨rfl, ?_⟩⟩
  obtain ⟨dy, ob⟩ := A.ob
  refine ⟨o, dy, _, rfl, ob, Rm.fld_no (by decide +kernel) (by decide +kernel) (by decide +kernel) (by decide +kernel) (by decide +kernel) (by decide +kernel), ?_⟩
  walk_at "go"
  refine ⟨o, z, ls, x, f, j, rfl, A, O, j0, j1, fun l H2 s2 e2 => ?_⟩
  exact q l H2 (fun c u h => s2 _ _ (k1 _ _ (ne_of_none h ho) (s0 _ _ h))) e2
theorem ok__law_cell (T : Txt K mg t) : FnOk P w K mg base CX0 1 t.a__law_cell t.d__law_cell ["_law_script", "_law_k"] (Rm.sp_cellK K) := by
  refine T.F__law_cell.ok sc__law_cell (fun vs H Q E h => ?_) (fun cdv A outer s H vs Q E hr h => ?_)
  · obtain ⟨a, ns, k, rfl, hS, h63, k0, k1, q⟩ := h
    rfl
  obtain ⟨a, ns, k, rfl, hS, h63, k0, k1, q⟩ := h
  refine ⟨_, (pss_cons (ps_if (pt_cmpR op_lt (pv 1) (pe_callB call_len (by rfl) T.b_len bt_len (pa_cons (pv 0) pa_nil)) (nomark _))
      (pss_one (ps_ret (pe_ix ix_list (pv 0) (pv 1) (fun _ _ => rfl))))
      pss_nil)
    (pss_cons (ps_set (i := 2) sc__law_cell.nd rfl (.inl rfl) (pe_op op_add (pe_op op_mulB (pv 1) (pv 1)) pe_int))
    (pss_cons (ps_ifJ (pt_cmpR op_gt (pe_callB call_len (by rfl) T.b_len bt_len (pa_cons (pv 0) pa_nil)) pe_int (nomark _))
      (pss_one (ps_set (i := 2) sc__law_cell.nd rfl (.inl rfl) (pe_op op_add (pv 2) (pe_op op_mod (pe_ix ix_list (pv 0) (pe_op op_mod (pe_op op_mulB (pv 1) pe_int) (pe_callB call_len (by rfl) T.b_len bt_len (pa_cons (pv 0) pa_nil))) (fun _ _ => rfl)) pe_int))))
      pss_nil)
    (pss_one (ps_ret (pe_op op_mod (pe_op op_mulB (pv 2) (pv 2)) pe_int)))))), ?_⟩
  refine rd_start (σ' := [some _, some _, none]) rfl ?_
  have sz : (200 : Nat) < sizeLine := by decide
  walk_at "go"
  refine ⟨_, _, rfl, .inl ⟨_, hS, rfl⟩, ?_⟩
  rw [List.length_map]
  walk_at "go"
  refine iteD (fun c => ?_) (fun c => ?_)
  · walk_at "go"
    refine ⟨a, _, _, _, rfl, rfl, hS, Pr.at_cell k0 c, ?_⟩
    exact q _
  walk_at "go"
  refine ⟨fun σ' H' => ∃ n : Int, σ' = [some (.ref a), some (.int k), some (.int n)] ∧ H = H' ∧ 0 ≤ n ∧ n ≤ 10 ^ 10, ?_, ?_⟩
  rotate_left
  · have kk := mul_in (A := 100) (B := 100) (show -100 ≤ k by omega) k1 (show -100 ≤ k by omega) k1
    have kp : 0 ≤ k * k := Int.mul_nonneg k0 k0
    walk_at "go"
    refine ⟨_, _, rfl, .inl ⟨_, hS, rfl⟩, ?_⟩
    rw [List.length_map]
    walk_at "go"
    refine iteD (fun c' => ?_) (fun c' => ?_)
    · walk_at "go"
      refine ⟨_, _, rfl, .inl ⟨_, hS, rfl⟩, ?_⟩
      rw [List.length_map]
      walk_at "go"
      have m0 := Int.emod_nonneg (k * 7) (show (ns.length : Int) ≠ 0 by omega)
      have m1 := Int.emod_lt_of_pos (k * 7) (show (0 : Int) < (ns.length : Int) by omega)
      refine ⟨a, _, _, _, rfl, rfl, hS, Pr.at_cell m0 m1, ?_⟩
      walk_at "go"
      exact ⟨_, rfl, rfl, by omega, by omega⟩
    · walk_at "go"
      exact ⟨_, rfl, rfl, by omega, by omega⟩
  rintro σ' H' ⟨n, rfl, rfl, n0, n1⟩
  walk_at "go"
  exact q _
theorem ok__law_names (T : Txt K mg t) : FnOk P w K mg base CX0 1 t.a__law_names t.d__law_names ["_law_cell_here", "_law_many"] (Rm.sp_onames) := by
  refine T.F__law_names.ok sc__law_names (fun vs H Q E h => ?_) (fun cdv A outer s H vs Q E hr h => ?_)
  · obtain ⟨c, n, rfl, hn, q⟩ := h
    rfl
  obtain ⟨c, n, rfl, hn, q⟩ := h
  refine ⟨_, (pss_cons (ps_set (i := 2) sc__law_names.nd rfl (.inl rfl) pe_str)
    (pss_cons (ps_set (i := 3) sc__law_names.nd rfl (.inl rfl) (pe_op op_add pe_int (pe_op op_mod (pv 0) pe_int)))
    (pss_cons (ps_set (i := 4) sc__law_names.nd rfl (.inl rfl) (pe_op op_mod (pe_op op_fdivB (pv 0) pe_int) (pv 3)))
    (pss_cons (ps_set (i := 5) sc__law_names.nd rfl (.inl rfl) (pe_op op_mod (pv 0) pe_int))
    (pss_cons (ps_set (i := 6) sc__law_names.nd rfl (.inl rfl) pe_str)
    (pss_cons (ps_for PassesOwn.never rfl (pi_range1 (by rfl) T.b_range (pa_cons (pv 3) pa_nil)) (pg_name (i := 7) sc__law_names.nd rfl (.inl rfl))
      (pss_cons (ps_set (i := 5) sc__law_names.nd rfl (.inl rfl) (pe_op op_mod (pe_op op_add (pe_op op_add (pe_op op_add (pe_op op_mulB (pv 5) (pv 5)) (pe_op op_mulB pe_int (pv 5))) (pv 7)) pe_int) pe_int))
      (pss_one (ps_set (i := 6) sc__law_names.nd rfl (.inl rfl) (pe_op op_add_str (pv 6) (pe_ix ix_str (pv 2) (pe_op op_mod (pe_op op_fdivB (pv 5) pe_int) pe_int) (fun _ _ => rfl)))))))
    (pss_cons (ps_set (i := 8) sc__law_names.nd rfl (.inl rfl) (pe_bm PySem.F.plainAttrs_str PySem.F.slot_str_index PySem.F.type_str_index mt_sindex (pv 2) (pa_cons (pe_ix ix_str (pv 6) (pv 4) (fun _ _ => rfl)) pa_nil)))
    (pss_cons (ps_set (i := 9) sc__law_names.nd rfl (.inl rfl) (pe_lst pa_nil))
    (pss_cons (ps_for PassesOwn.never rfl (pi_range1 (by rfl) T.b_range (pa_cons (pv 1) pa_nil)) (pg_name (i := 7) sc__law_names.nd rfl (.inl rfl))
      (pss_cons (ps_set (i := 10) sc__law_names.nd rfl (.inl rfl) (pe_ix ix_str (pv 2) (pe_op op_mod (pe_op op_add (pv 8) (pe_op op_mulB pe_int (pv 7))) pe_int) (fun _ _ => rfl)))
      (pss_cons (ps_set (i := 11) sc__law_names.nd rfl (.inl rfl) (pe_op op_mulB (pe_op op_mod (pv 7) pe_int) (pe_op op_mod (pe_op op_fdivB (pv 0) pe_int) pe_int)))
      (pss_one (ps_expr (pe_bm PySem.F.plainAttrs_list PySem.F.slot_list_append PySem.F.type_list_append mt_append (pv 9) (pa_cons (pe_op op_add_str (pe_op op_add_str (pe_op op_add_str (pe_slice sl_str (pv 6) po_none (po_some (pv 4))) (pv 10)) (pe_slice sl_str (pv 6) (po_some (pe_op op_add (pv 4) pe_int)) po_none)) (pe_slice sl_str pe_str po_none (po_some (pv 11)))) pa_nil)))))))
    (pss_one (ps_ret (pv 9)))))))))))), ?_⟩
  refine rd_start (σ' := [some _, some _, none, none, none, none, none, none, none, none, none, none]) rfl ?_
  have sz : (200 : Nat) < sizeLine := by decide
  walk_at "go"
  have a0 := Int.emod_nonneg (c / 6) (show 1 + c % 6 ≠ 0 by omega)
  have a1 := Int.emod_lt_of_pos (c / 6) (show 0 < 1 + c % 6 by omega)
  generalize hat : c / 6 % (1 + c % 6) = at' at a0 a1 ⊢
  have g0 : 1 ≤ 1 + c % 6 := by omega
  have g1 : 1 + c % 6 ≤ 6 := by omega
  generalize 1 + c % 6 = lg at a1 g0 g1 ⊢
  refine ⟨_, rfl, by omega, by omega, ?_⟩
  refine for_range (fun i σ H' => ∃ (o7 : Option V) (sd : Int) (x : Str), σ = [some (.int c), some (.int n), some (.str "abcdefghijklmnopqrstuvwxyz"), some (.int lg), some (.int at'), some (.int sd), some (.str x), o7, none, none, none, none] ∧ H = H' ∧ 0 ≤ sd ∧ sd < 1000003 ∧ x.length = i ∧ ∀ d ∈ x.cps.toList, 97 ≤ d ∧ d ≤ 122)
    ⟨_, _, _, rfl, rfl, by omega, by omega, by decide +kernel, (fun d h => by rw [show (Str.ofString "").cps.toList = [] by decide +kernel] at h; exact nomatch h)⟩ ?_ ?_
  · rintro i σ H' hi ⟨o7, sd, x, rfl, rfl, d0, d1, lx, cx⟩
    have hi : i < 6 := by omega
    have ss := mul_in (A := 1000003) (B := 1000003) (show -1000003 ≤ sd by omega) (by omega) (show -1000003 ≤ sd by omega) (by omega)
    walk_at "go"
    refine ⟨_, _, _, rfl, rfl, (by decide +kernel), Rm.let_at (by omega) (by omega), ?_⟩
    refine ⟨_, _, rfl, rfl, by rw [lx]; show i + 1 ≤ _; omega, ?_⟩
    refine ⟨_, _, _, rfl, rfl, by omega, by omega, by rw [Str.length_append, lx]; rfl, fun d hd => ?_⟩
    rw [Rm.app_list] at hd
    rcases List.mem_append.mp hd with z | z
    · exact cx d z
    · rw [show d = _ from List.mem_singleton.mp z]
      omega
  rintro σ' H' ⟨o7, sd, x, rfl, rfl, d0, d1, lx, cx⟩
  have lx' : x.cps.toList.length = x.length := Ws.len_is x
  have ax : at'.toNat < x.cps.toList.length := by rw [lx', lx]; omega
  walk_at "go"
  obtain ⟨c0, hc0⟩ : ∃ c0, x.cps.toList[at'.toNat]? = some c0 := ⟨_, List.getElem?_eq_getElem ax⟩
  have c0b := cx c0 (List.mem_of_getElem? hc0)
  refine ⟨rfl, ?_⟩
  walk_at "go"
  refine ⟨_, _, _, rfl, rfl, (by omega), Rm.atI_code a0 hc0, ?_⟩
  refine ⟨_, _, _, _, rfl, rfl, Rm.let_occ c0b.1 c0b.2, ?_⟩
  walk_at "go"
  refine ⟨Nat.zero_le _, ?_⟩
  intro p5 hp5; generalize eH : L2.upd _ p5 _ = H5; have s5 := L2.same_of hp5 eH; have t5 := L2.at_of eH; clear eH
  walk_at "go"
  refine ⟨_, rfl, by omega, by omega, ?_⟩
  have e2 : 0 ≤ c / 36 % 2 ∧ c / 36 % 2 < 2 := by omega
  generalize hE : c / 36 % 2 = ee at e2
  refine for_range (fun i σ H' => ∃ (o7 o10 o11 : Option V) (ws : List Str), σ = [some (.int c), some (.int n), some (.str "abcdefghijklmnopqrstuvwxyz"), some (.int lg), some (.int at'), some (.int sd), some (.str x), o7, some (.int (c0 - 97 : Nat)), some (.ref p5), o10, o11] ∧ Same H H' ∧ H' p5 = some (.lst (ws.map V.str)) ∧ ws.length = i ∧ ∀ j, j < i → (ws[j]?).map (·.cps.toList) = some (Rm.onL x.cps.toList at'.toNat (c0 - 97) (j % 3 * ee.toNat) j))
    ⟨_, _, _, [], rfl, s5, t5, rfl, fun j hj => absurd hj (Nat.not_lt_zero j)⟩ ?_ ?_
  · rintro i σ H' hi ⟨o7, o10, o11, ws, rfl, sm, hl', hn', hw⟩
    have hi : i < 26 := by omega
    walk_at "go"
    refine ⟨_, _, _, rfl, rfl, (by decide +kernel), Rm.let_at (by omega) (by omega), ?_⟩
    walk_at "go"
    rw [hE]
    have em : (0 + (i : Int)) % 3 * ee = ((i % 3 * ee.toNat : Nat) : Int) := by
      have : ee = 0 ∨ ee = 1 := by omega
      rcases this with rfl | rfl
      · simp
      · simp
    have em2 : i % 3 * ee.toNat ≤ 2 := by
      have : ee.toNat = 0 ∨ ee.toNat = 1 := by omega
      rcases this with z | z <;> rw [z] <;> omega
    rw [em]
    have e97 : 97 + (((c0 - 97 : Nat) : Int) + 3 * (0 + (i : Int))) % 26 = ((97 + (c0 - 97 + 3 * i) % 26 : Nat) : Int) := by omega
    have e98 : 97 + ((((c0 - 97 : Nat) : Int) + 3 * (0 + (i : Int))) % 26).toNat = 97 + (c0 - 97 + 3 * i) % 26 := by omega
    rw [e98]
    generalize hm : i % 3 * ee.toNat = m at em2
    have hlab : (Str.ofString "ab").length = 2 := by decide +kernel
    have one : ∀ c : Nat, (⟨#[c]⟩ : Str).length = 1 := fun _ => rfl
    have j1 := Txt.slice_le x none (some at')
    have j2 := Txt.slice_le x (some (at' + 1)) none
    have j3 := Txt.slice_le (Str.ofString "ab") none (some (m : Int))
    refine ⟨.inl ⟨rfl, _, SqL.of hl'⟩, ?_⟩
    walk_at "go"
    refine ⟨by omega, ?_⟩
    walk_at "go"
    refine ⟨_, _, rfl, rfl, by rw [one]; omega, ?_⟩
    walk_at "go"
    refine ⟨by omega, ?_⟩
    refine ⟨_, _, rfl, rfl, by rw [Str.length_append, one]; omega, ?_⟩
    walk_at "go"
    refine ⟨by rw [hlab]; omega, ?_⟩
    refine ⟨_, _, rfl, rfl, by rw [Str.length_append, Str.length_append, one]; omega, ?_⟩
    walk_at "go"
    refine ⟨p5, _, _, rfl, rfl, hl', by rw [List.length_map]; omega, ?_⟩
    refine ⟨_, _, _, ws ++ [_], rfl, Ws.same_upd sm hp5, by rw [upd_same, List.map_append]; rfl, by rw [List.length_append, hn']; rfl, ?_⟩
    refine Rm.on_snoc hn' hw ?_
    rw [hm, Rm.app_list, Rm.app_list, Rm.app_list, Rm.cutTo a0 (by omega), Rm.cutFrom (by omega) (by omega), Rm.cutTo (by omega) (by rw [hlab]; omega)]
    unfold Rm.onL
    rw [show (at' + 1).toNat = at'.toNat + 1 by omega, show (Str.ofString "ab").cps.toList = [97, 98] by decide +kernel, Int.toNat_natCast]
  rintro σ' H' ⟨o7, o10, o11, ws, rfl, sm, hl', hn', hw⟩
  walk_at "go"
  have hn2 : ws.length = n := by omega
  obtain ⟨g1, g2⟩ := Rm.onL_good (by omega) cx (by omega) ax hn2 (fun j hj => hw j (by omega))
  exact q _ _ _ sm hp5 hl' hn2 g1 g2
theorem ok__law_alike (T : Txt K mg t) : FnOk P w K mg base CX0 1 t.a__law_alike t.d__law_alike ["_law_found", "_law_due"] (Rm.sp_oalike) := by
  refine T.F__law_alike.ok sc__law_alike (fun vs H Q E h => ?_) (fun cdv A outer s H vs Q E hr h => ?_)
  · obtain ⟨l1, l2, xs, rfl, e1, e2, hx, h150, q⟩ := h
    rfl
  obtain ⟨l1, l2, xs, rfl, e1, e2, hx, h150, q⟩ := h
  refine ⟨_, (pss_cons (ps_if (pw_or (pt_not (pt_val (pe_callB call_isi (by rfl) T.b_isinstance bt_isinstance (pa_cons (pv 0) (pa_cons (pe_bltn (v := .ty "list") (by rfl) T.b_list bt_list rfl) pa_nil))))) (pw_or1 (pt_cmpR op_ne (pe_callB call_len (by rfl) T.b_len bt_len (pa_cons (pv 0) pa_nil)) (pe_callB call_len (by rfl) T.b_len bt_len (pa_cons (pv 1) pa_nil)) (nomark _)))).pt
      (pss_one (ps_ret pe_bl))
      pss_nil)
    (pss_cons (ps_for PassesOwn.never rfl (pi_zip (by rfl) T.b_zip (pa_cons (pv 0) (pa_cons (pv 1) pa_nil))) (pg_tup rfl (pgs_cons (pg_name (i := 2) sc__law_alike.nd rfl (.inl rfl)) (pgs_cons (pg_name (i := 3) sc__law_alike.nd rfl (.inl rfl)) pgs_nil)))
      (pss_one (ps_if (pt_val (pe_callB call_isi (by rfl) T.b_isinstance bt_isinstance (pa_cons (pv 3) (pa_cons (pe_bltn (v := .ty "str") (by rfl) T.b_str bt_str rfl) pa_nil))))
        (pss_one (ps_if (pw_or (pt_not (pt_val (pe_callB call_isi (by rfl) T.b_isinstance bt_isinstance (pa_cons (pv 2) (pa_cons (pe_bltn (v := .ty "str") (by rfl) T.b_str bt_str rfl) pa_nil))))) (pw_or1 (pt_cmpR op_ne (pv 2) (pv 3) (nomark _)))).pt
          (pss_one (ps_ret pe_bl))
          pss_nil))
        (pss_one (ps_if (pw_or (pt_not (pt_val (pe_callB call_isi (by rfl) T.b_isinstance bt_isinstance (pa_cons (pv 2) (pa_cons (pe_bltn (v := .ty "int") (by rfl) T.b_int bt_int rfl) pa_nil))))) (pw_or (pt_val (pe_callB call_isi (by rfl) T.b_isinstance bt_isinstance (pa_cons (pv 2) (pa_cons (pe_bltn (v := .ty "bool") (by rfl) T.b_bool bt_bool rfl) pa_nil)))) (pw_or1 (pt_cmpR op_ne (pv 2) (pv 3) (nomark _))))).pt
          (pss_one (ps_ret pe_bl))
          pss_nil)))))
    (pss_one (ps_ret pe_bl)))), ?_⟩
  refine rd_start (σ' := [some _, some _, none, none]) rfl ?_
  have sz : (200 : Nat) < sizeLine := by decide
  walk_at "go"
  refine ⟨_, _, _, _, rfl, .lst e1, i_list_list, ?_⟩
  walk_at "go"
  refine iteF ?_
  walk_at "go"
  refine ⟨_, _, rfl, .inl ⟨_, SqL.of e1, rfl⟩, ?_⟩
  walk_at "go"
  refine ⟨_, _, rfl, .inl ⟨_, SqL.of e2, rfl⟩, ?_⟩
  walk_at "go"
  refine iteN (fun z => absurd rfl z) (fun _ => ?_)
  walk_at "go"
  refine ⟨l1, l2, _, _, rfl, SqL.of e1, SqL.of e2, ?_⟩
  refine for_zip (xs := xs) (ys := xs) (fun i σ H' => ∃ (o2 o3 : Option V), σ = [some (.ref l1), some (.ref l2), o2, o3] ∧ Same H H') rfl ⟨_, _, rfl, Same.refl _⟩ ?_ ?_ ?_
  · rintro i σ H' _ ⟨o2, o3, rfl, sm⟩
    exact ⟨SqL.of (sm _ _ e1), SqL.of (sm _ _ e2)⟩
  · rintro i u v σ H' P H4 hu hv ⟨o2, o3, rfl, sm⟩ sP tP
    have euv : u = v := Option.some.inj (hu.symm.trans hv)
    subst euv
    refine rd_gT2 (SqT.of tP) ?_
    walk_at "go"
    rcases hx u (List.mem_of_getElem? hu) with ⟨i, rfl⟩ | ⟨z, rfl⟩
    · refine ⟨_, _, _, _, rfl, .int _, i_int_str, ?_⟩
      walk_at "go"
      refine iteF ?_
      walk_at "go"
      refine ⟨_, _, _, _, rfl, .int _, i_int_int, ?_⟩
      walk_at "go"
      refine iteF ?_
      walk_at "go"
      refine ⟨_, _, _, _, rfl, .int _, i_int_bool, ?_⟩
      walk_at "go"
      refine iteF ?_
      walk_at "go"
      refine iteN (fun z => absurd rfl z) (fun _ => ?_)
      walk_at "go"
      exact ⟨_, _, rfl, sm.trans sP⟩
    · refine ⟨_, _, _, _, rfl, .str _, i_str_str, ?_⟩
      walk_at "go"
      refine iteT ?_
      walk_at "go"
      refine ⟨_, _, _, _, rfl, .str _, i_str_str, ?_⟩
      walk_at "go"
      refine iteF ?_
      walk_at "go"
      refine iteN (fun z => absurd rfl z) (fun _ => ?_)
      walk_at "go"
      exact ⟨_, _, rfl, sm.trans sP⟩
  rintro σ' H' ⟨o2, o3, rfl, sm⟩
  walk_at "go"
  exact q _ sm
theorem ok_law (T : Txt K mg t) (G_stand : FnOk P w K mg base CX0 8 t.a_stand t.d_stand ["book", "beat"] (Rm.sp_stand1)) (G_rings : FnOk P w K mg base CX0 8 t.a_rings t.d_rings ["book", "beat"] (Rm.sp_rings1)) (G__law_cell : FnOk P w K mg base CX0 1 t.a__law_cell t.d__law_cell ["_law_script", "_law_k"] (Rm.sp_cellK K)) (G__law_names : FnOk P w K mg base CX0 1 t.a__law_names t.d__law_names ["_law_cell_here", "_law_many"] (Rm.sp_onames)) (G__law_alike : FnOk P w K mg base CX0 1 t.a__law_alike t.d__law_alike ["_law_found", "_law_due"] (Rm.sp_oalike)) : FnOk P w K mg base CX0 9 t.a_law t.d_law ["_law_script"] (Pr.sp_law K) := by
  refine T.F_law.ok sc_law (fun vs H Q E h => ?_) (fun cdv A outer s H vs Q E hr h => ?_)
  · obtain ⟨a, ns, rfl, hS, h63, hB, q⟩ := h
    rfl
  obtain ⟨a, ns, rfl, hS, h63, hB, q⟩ := h
  refine ⟨_, (pss_cons (ps_set (i := 1) sc_law.nd rfl (.inr rfl) (pe_call (G__law_names.mono (by decide)) hr (by rfl) T.m__law_names T.F__law_names.kp T.B__law_names .nil pass0 (pa_cons (pe_call (G__law_cell.mono (by decide)) hr (by rfl) T.m__law_cell T.F__law_cell.kp T.B__law_cell .nil pass0 (pa_cons (pv 0) (pa_cons pe_int pa_nil))) (pa_cons pe_int pa_nil))))
    (pss_cons (ps_set (i := 2) sc_law.nd rfl (.inl rfl) (pe_op op_add pe_int (pe_op op_mod (pe_call (G__law_cell.mono (by decide)) hr (by rfl) T.m__law_cell T.F__law_cell.kp T.B__law_cell .nil pass0 (pa_cons (pv 0) (pa_cons pe_int pa_nil))) pe_int)))
    (pss_cons (ps_setC (i := 3) (ow := ["_law_k"]) (ci := [1, 0]) rfl (CompScope.of (defScope s_law) ["_law_script", "_law_names_here", "_law_many", "_law_limbs", "_law_beats", "_law_goal", "_law_at", "_law_form", "_law_way", "_law_book", "_law_parts", "_law_beat", "_law_due"] rfl rfl (by decide +kernel)) (gk_name (by decide)) sc_law.nd rfl (.inl rfl) (pi_range1 (by rfl) T.b_range (pa_cons (pv 2) pa_nil)) (fun _ _ _ _ _ => ⟨(pg_name (i := 0) (blk_nd ["_law_script", "_law_names_here", "_law_many", "_law_limbs", "_law_beats", "_law_goal", "_law_at", "_law_form", "_law_way", "_law_book", "_law_parts", "_law_beat", "_law_due"] rfl (by decide +kernel)) rfl (.inl rfl)), pf_nil, (pe_tup (pa_cons (pe_ix (ix_listK (K := K) rfl) (pv 1) (pv 0) (fun _ _ => rfl)) (pa_cons (pe_op op_mod (pe_op op_mulR (pe_op op_mulR (pe_call (G__law_cell.mono (by decide)) hr (by rfl) T.m__law_cell T.F__law_cell.kp T.B__law_cell .nil pass0 (pa_cons (pv 2) (pa_cons pe_int pa_nil))) (pe_op op_add (pe_op op_mulB pe_int (pv 0)) pe_int)) pe_int) (pe_op op_add (pe_op op_pow pe_int pe_int) pe_int)) pa_nil)))⟩))
    (pss_cons (ps_set (i := 4) sc_law.nd rfl (.inr rfl) (pe_op op_add pe_int (pe_op op_mod (pe_op op_mulR (pe_call (G__law_cell.mono (by decide)) hr (by rfl) T.m__law_cell T.F__law_cell.kp T.B__law_cell .nil pass0 (pa_cons (pv 0) (pa_cons pe_int pa_nil))) (pe_ix ix_list (pe_lst (pa_cons pe_int (pa_cons (pe_op op_add (pe_op op_pow pe_int pe_int) pe_int) pa_nil))) (pe_op op_mod (pe_op op_fdivB (pe_call (G__law_cell.mono (by decide)) hr (by rfl) T.m__law_cell T.F__law_cell.kp T.B__law_cell .nil pass0 (pa_cons (pv 0) (pa_cons pe_int pa_nil))) pe_int) pe_int) (fun _ _ => rfl))) (pe_op op_pow pe_int pe_int))))
    (pss_cons (ps_set (i := 5) sc_law.nd rfl (.inl rfl) (pe_op op_mod (pe_op op_mulR (pe_call (G__law_cell.mono (by decide)) hr (by rfl) T.m__law_cell T.F__law_cell.kp T.B__law_cell .nil pass0 (pa_cons (pv 0) (pa_cons pe_int pa_nil))) (pe_ix ix_list (pe_lst (pa_cons pe_int (pa_cons (pe_op op_add (pe_op op_pow pe_int pe_int) pe_int) pa_nil))) (pe_op op_mod (pe_op op_fdivB (pe_call (G__law_cell.mono (by decide)) hr (by rfl) T.m__law_cell T.F__law_cell.kp T.B__law_cell .nil pass0 (pa_cons (pv 0) (pa_cons pe_int pa_nil))) pe_int) pe_int) (fun _ _ => rfl))) (pe_op op_add (pe_op op_pow pe_int pe_int) pe_int)))
    (pss_cons (ps_set (i := 6) sc_law.nd rfl (.inl rfl) (pe_op op_mod (pe_call (G__law_cell.mono (by decide)) hr (by rfl) T.m__law_cell T.F__law_cell.kp T.B__law_cell .nil pass0 (pa_cons (pv 0) (pa_cons pe_int pa_nil))) (pv 2)))
    (pss_cons (ps_set (i := 7) sc_law.nd rfl (.inl rfl) (pe_lst (pa_cons (pe_tup (pa_cons pe_str (pa_cons (pe_ix ix_list (pv 1) (pv 6) (fun _ _ => rfl)) (pa_cons (pv 5) (pa_cons (pv 4) pa_nil))))) (pa_cons (pe_tup (pa_cons pe_str (pa_cons (pv 4) pa_nil))) (pa_cons (pe_tup (pa_cons pe_str (pa_cons (pe_ix ix_list (pv 1) pe_int (fun _ _ => rfl)) (pa_cons (pv 4) pa_nil)))) pa_nil)))))
    (pss_cons (ps_set (i := 8) sc_law.nd rfl (.inl rfl) (pe_ix ix_list (pe_lst (pa_cons pe_int (pa_cons pe_int (pa_cons pe_int (pa_cons pe_int pa_nil))))) (pe_op op_mod (pe_op op_fdivB (pe_call (G__law_cell.mono (by decide)) hr (by rfl) T.m__law_cell T.F__law_cell.kp T.B__law_cell .nil pass0 (pa_cons (pv 0) (pa_cons pe_int pa_nil))) pe_int) pe_int) (fun _ _ => rfl)))
    (pss_cons (ps_set (i := 9) sc_law.nd rfl (.inl rfl) (pe_tup (pa_cons (pe_callTy call_list_of (by rfl) T.b_list bt_list (pa_cons (pv 3) pa_nil)) (pa_cons (pe_lst (pa_cons (pe_tup (pa_cons (pe_ix ix_list (pv 1) (pe_op op_mod (pe_op op_fdivB (pe_call (G__law_cell.mono (by decide)) hr (by rfl) T.m__law_cell T.F__law_cell.kp T.B__law_cell .nil pass0 (pa_cons (pv 0) (pa_cons pe_int pa_nil))) pe_int) pe_int) (fun _ _ => rfl)) (pa_cons (pe_ix ix_list (pv 7) (pv 8) (fun _ _ => rfl)) pa_nil))) pa_nil)) pa_nil))))
    (pss_cons (ps_set (i := 10) sc_law.nd rfl (.inl rfl) (pe_callTy call_list_of (by rfl) T.b_list bt_list (pa_cons (pe_ix ix_tup (pv 9) pe_int (fun _ _ => rfl)) pa_nil)))
    (pss_cons (ps_for PassesOwn.never rfl (pi_list (pe_op op_cat (pe_lst (pa_cons pe_int (pa_cons (pv 4) pa_nil))) (pe_comp (ow := ["_law_cell_here"]) (ci := [4]) rfl (CompScope.of (defScope s_law) ["_law_script", "_law_names_here", "_law_many", "_law_limbs", "_law_beats", "_law_goal", "_law_at", "_law_form", "_law_way", "_law_book", "_law_parts", "_law_beat", "_law_due"] rfl rfl (by decide +kernel)) (gk_name (by decide)) (pi_list (pe_slice sl_list (pv 0) (po_some pe_int) (po_some pe_int))) (fun _ _ _ _ _ => ⟨(pg_name (i := 0) (blk_nd ["_law_script", "_law_names_here", "_law_many", "_law_limbs", "_law_beats", "_law_goal", "_law_at", "_law_form", "_law_way", "_law_book", "_law_parts", "_law_beat", "_law_due"] rfl (by decide +kernel)) rfl (.inl rfl)), pf_nil, (pe_op op_mod (pe_op op_mulR (pv 0) (pe_ix (ix_listK (K := K) rfl) (pe_lst (pa_cons pe_int (pa_cons (pe_op op_add (pe_op op_pow pe_int pe_int) pe_int) pa_nil))) (pe_op op_mod (pv 0) pe_int) (fun _ _ => rfl))) (pe_op op_add (pv 1) pe_int))⟩)))) (pg_name (i := 11) sc_law.nd rfl (.inl rfl))
      (pss_cons (ps_setC (i := 12) (ow := ["_law_name", "_law_height"]) (ci := []) rfl (CompScope.of (defScope s_law) ["_law_script", "_law_names_here", "_law_many", "_law_limbs", "_law_beats", "_law_goal", "_law_at", "_law_form", "_law_way", "_law_book", "_law_parts", "_law_beat", "_law_due"] rfl rfl (by decide +kernel)) (gk_tup2 (by decide) (by decide)) sc_law.nd rfl (.inl rfl) (pi_list (pv 3)) (fun _ _ _ _ _ => ⟨(pg_tup rfl (pgs_cons (pg_name (i := 0) (blk_nd ["_law_script", "_law_names_here", "_law_many", "_law_limbs", "_law_beats", "_law_goal", "_law_at", "_law_form", "_law_way", "_law_book", "_law_parts", "_law_beat", "_law_due"] rfl (by decide +kernel)) rfl (.inl rfl)) (pgs_cons (pg_name (i := 1) (blk_nd ["_law_script", "_law_names_here", "_law_many", "_law_limbs", "_law_beats", "_law_goal", "_law_at", "_law_form", "_law_way", "_law_book", "_law_parts", "_law_beat", "_law_due"] rfl (by decide +kernel)) rfl (.inl rfl)) pgs_nil))), pf_nil, (pv 1)⟩))
      (pss_cons (ps_ifJ (pt_cmpR op_eq (pv 8) pe_int (nomark _))
        (pss_one (ps_asg (pe_op op_add (pe_ix ix_list (pv 12) (pv 6) (fun _ _ => rfl)) (pe_op op_fdivB (pe_op op_mulB (pe_op op_sub (pv 5) (pe_ix ix_list (pv 12) (pv 6) (fun _ _ => rfl))) (pv 11)) (pv 4))) (pg_sub (pv 12) (pv 6) set_list)))
        pss_nil)
      (pss_cons (ps_if (pt_not (pt_val (pe_call (G__law_alike.mono (by decide)) hr (by rfl) T.m__law_alike T.F__law_alike.kp T.B__law_alike .nil pass0 (pa_cons (pe_call (G_stand.mono (by decide)) hr (by rfl) T.m_stand T.F_stand.kp T.B_stand .nil pass0 (pa_cons (pv 9) (pa_cons (pv 11) pa_nil))) (pa_cons (pv 12) pa_nil)))))
        (pss_one (ps_ret pe_bl))
        pss_nil)
      (pss_one (ps_if (pt_not (pt_val (pe_call (G__law_alike.mono (by decide)) hr (by rfl) T.m__law_alike T.F__law_alike.kp T.B__law_alike .nil pass0 (pa_cons (pe_call (G_rings.mono (by decide)) hr (by rfl) T.m_rings T.F_rings.kp T.B_rings .nil pass0 (pa_cons (pv 9) (pa_cons (pv 11) pa_nil))) (pa_cons (pe_op op_rep (pe_lst (pa_cons (pe_ix ix_list (pv 1) pe_int (fun _ _ => rfl)) pa_nil)) (pe_callTy call_int1 (by rfl) T.b_int bt_int (pa_cons (pe_and (pe_cmpR op_eq (pv 8) pe_int (nomark _)) (pe_one (pe_cmpR op_eq (pv 11) pe_int (nomark _)))) pa_nil))) pa_nil)))))
        (pss_one (ps_ret pe_bl))
        pss_nil))))))
    (pss_one (ps_ret (pe_cmpR (op_eqD hr.units) (pv 9) (pe_tup (pa_cons (pv 3) (pa_cons (pv 10) pa_nil))) (nomark _))))))))))))))), ?_⟩
  refine rd_start (σ' := [some _, none, none, none, none, none, none, none, none, none, none, none, none]) rfl ?_
  have sz : (200 : Nat) < sizeLine := by decide
  walk_at "go"
  refine ⟨a, ns, _, rfl, hS, h63, by omega, by omega, fun c0 => ?_⟩
  walk_at "go"
  refine ⟨c0, 12, rfl, by omega, fun p1 ws H1 s1 hp1 e1 wl wd ww => ?_⟩
  have hS1 := s1.seq hS
  walk_at "go"
  refine ⟨a, ns, _, rfl, hS1, h63, by omega, by omega, fun c1 => ?_⟩
  walk_at "go"
  have m0 : 1 ≤ 1 + c1 % 8 ∧ 1 + c1 % 8 ≤ 8 := by omega
  generalize 1 + c1 % 8 = mm at m0 ⊢
  refine ⟨_, rfl, by omega, by omega, ?_⟩
  have wsat : ∀ {k : Nat}, k < 12 → ws[k]? = some (ws.getD k ⟨#[]⟩) := fun {k} h1 => by
    rw [List.getD_eq_getElem?_getD, List.getElem?_eq_getElem (by omega)]
    rfl
  have wat : ∀ {k : Int}, 0 ≤ k → k < 12 → atI (ws.map V.str) k = some (.str (ws.getD k.toNat ⟨#[]⟩)) := fun {k} h0 h1 => by
    have q : atI (ws.map V.str) ((k.toNat : Nat) : Int) = some (.str (ws.getD k.toNat ⟨#[]⟩)) := atI_nat (by rw [List.getElem?_map, wsat (by omega)]; rfl)
    rw [Int.toNat_of_nonneg h0] at q
    exact q
  refine comp_range (fun i ys H' => ∃ (as : List Addr) (ls : List (Str × Int)), ys = as.map V.ref ∧ as.length = i ∧ ls.map (·.1) = ws.take i ∧ Same H1 H' ∧ (∀ q ∈ ls, 0 ≤ q.2 ∧ q.2 ≤ 10 ^ 18) ∧ Rm.All2 (Rm.LimbAt H') as ls) ⟨[], [], rfl, rfl, rfl, Same.refl _, (fun h hh => nomatch hh), .nil⟩ ?_ ?_
  · rintro i ys H' hi ⟨as, ls, rfl, la, lh, sm, hb, al⟩
    refine rd_cap (σ' := [none, some _, some _]) rfl ?_
    walk_at "go"
    refine iteT ?_
    walk_at "go"
    refine ⟨p1, _, _, _, rfl, rfl, SqL.of (sm _ _ e1), wat (by omega) (by omega), ?_⟩
    rw [show (0 + (i : Int)).toNat = i by omega]
    walk_at "go"
    refine ⟨a, ns, _, rfl, sm.seq hS1, h63, by omega, by omega, fun c2 => ?_⟩
    walk_at "go"
    refine ⟨(by show 2 ≤ sizeLine; omega), ?_⟩
    have b0 := Int.emod_nonneg (c2 * (2 * (0 + (i : Int)) + 1) * 48271) (show ((10 : Int) ^ 18 + 1) ≠ 0 by decide)
    have b1 := Int.emod_lt_of_pos (c2 * (2 * (0 + (i : Int)) + 1) * 48271) (show (0 : Int) < (10 : Int) ^ 18 + 1 by decide)
    generalize c2 * (2 * (0 + (i : Int)) + 1) * 48271 % (10 ^ 18 + 1) = hh at b0 b1 ⊢
    intro p2 hp2; generalize eH : L2.upd _ p2 _ = H2; have s2 := L2.same_of hp2 eH; have t2 := L2.at_of eH; clear eH
    refine ⟨by rw [List.length_map]; omega, as ++ [p2], ls ++ [(ws.getD i ⟨#[]⟩, hh)], by rw [List.map_append]; rfl, by rw [List.length_append, la]; rfl, ?_, sm.trans s2, fun q' hq' => ?_, ?_⟩
    · rw [List.map_append, lh, Rm.take_snoc (wsat (by omega))]
      rfl
    · rcases List.mem_append.mp hq' with z | z
      · exact hb q' z
      · rw [List.mem_singleton.mp z]
        exact ⟨b0, by show hh ≤ _; omega⟩
    · exact Rm.All2.snoc (al.mono fun c x h => s2 _ _ h) t2
  rintro ys H' ⟨as, ls, rfl, la, lh, sm, hb, al⟩
  refine ⟨by rw [List.length_map]; omega, ?_⟩
  intro p3 hp3; generalize eH : L2.upd _ p3 _ = H3; have s3 := L2.same_of hp3 eH; have t3 := L2.at_of eH; clear eH
  have s13 := sm.trans s3
  have al3 : Rm.All2 (Rm.LimbAt H3) as ls := al.mono fun c x h => s3 _ _ h
  have hS3 := s13.seq hS1
  have e13 := s13 _ _ e1
  clear al hp3 sm s3
  have ll : ls.length = mm.toNat := by rw [← al3.1]; exact la
  walk_at "go"
  refine ⟨a, ns, _, rfl, hS3, h63, by omega, by omega, fun c3 => ?_⟩
  walk_at "go"
  refine ⟨(by show 2 ≤ sizeLine; omega), ?_⟩
  intro p4 hp4; generalize eH : L2.upd _ p4 _ = H4; have s4 := L2.same_of hp4 eH; have t4 := L2.at_of eH; clear eH
  have hS4 := s4.seq hS3
  walk_at "go"
  refine ⟨a, ns, _, rfl, hS4, h63, by omega, by omega, fun c1' => ?_⟩
  walk_at "go"
  obtain ⟨j4, a4, _⟩ := Rm.at2 (a := 1) (b := 10 ^ 16 + 61) (show 0 ≤ c1' / 8 % 2 by omega) (by omega)
  refine ⟨p4, _, _, _, rfl, rfl, SqL.of t4, a4, ?_⟩
  have j4b : -(2 ^ 64) < j4 ∧ j4 < 2 ^ 64 := by omega
  walk_at "go"
  have n0 := Int.emod_nonneg (c3 * j4) (show ((10 : Int) ^ 18) ≠ 0 by decide)
  have n1 := Int.emod_lt_of_pos (c3 * j4) (show (0 : Int) < (10 : Int) ^ 18 by decide)
  generalize c3 * j4 % 10 ^ 18 = bt at n0 n1 ⊢
  have n2 : 1 ≤ 1 + bt ∧ 1 + bt ≤ 10 ^ 18 := by omega
  generalize 1 + bt = n at n2 ⊢
  clear a4 j4b n0 n1
  refine ⟨a, ns, _, rfl, hS4, h63, by omega, by omega, fun c4 => ?_⟩
  walk_at "go"
  refine ⟨(by show 2 ≤ sizeLine; omega), ?_⟩
  intro p5 hp5; generalize eH : L2.upd _ p5 _ = H5; have s5 := L2.same_of hp5 eH; have t5 := L2.at_of eH; clear eH
  have hS5 := s5.seq hS4
  walk_at "go"
  refine ⟨a, ns, _, rfl, hS5, h63, by omega, by omega, fun c1'' => ?_⟩
  walk_at "go"
  obtain ⟨j5, a5, _⟩ := Rm.at2 (a := 1) (b := 10 ^ 17 + 3) (show 0 ≤ c1'' / 16 % 2 by omega) (by omega)
  refine ⟨p5, _, _, _, rfl, rfl, SqL.of t5, a5, ?_⟩
  have j5b : -(2 ^ 64) < j5 ∧ j5 < 2 ^ 64 := by omega
  walk_at "go"
  have g0 := Int.emod_nonneg (c4 * j5) (show ((10 : Int) ^ 18 + 1) ≠ 0 by decide)
  have g1 := Int.emod_lt_of_pos (c4 * j5) (show (0 : Int) < (10 : Int) ^ 18 + 1 by decide)
  generalize c4 * j5 % (10 ^ 18 + 1) = g at g0 g1 ⊢
  clear a5 j5b
  refine ⟨a, ns, _, rfl, hS5, h63, by omega, by omega, fun c5 => ?_⟩
  walk_at "go"
  have k0 := Int.emod_nonneg c5 (show mm ≠ 0 by omega)
  have k1 := Int.emod_lt_of_pos c5 (show 0 < mm by omega)
  generalize c5 % mm = k at k0 k1 ⊢
  have e15 := s5 _ _ (s4 _ _ e13)
  refine ⟨p1, _, _, _, rfl, rfl, SqL.of e15, wat (by omega) (by omega), ?_⟩
  walk_at "go"
  refine ⟨(by show 4 ≤ sizeLine; omega), ?_⟩
  intro p6 hp6; generalize eH : L2.upd _ p6 _ = H6; have s6 := L2.same_of hp6 eH; have t6 := L2.at_of eH; clear eH
  walk_at "go"
  refine ⟨(by show 2 ≤ sizeLine; omega), ?_⟩
  intro p7 hp7; generalize eH : L2.upd _ p7 _ = H7; have s7 := L2.same_of hp7 eH; have t7 := L2.at_of eH; clear eH
  have s57 := s6.trans s7
  walk_at "go"
  refine ⟨p1, _, _, _, rfl, rfl, SqL.of (s57 _ _ e15), wat (by omega) (by omega), ?_⟩
  walk_at "go"
  refine ⟨(by show 3 ≤ sizeLine; omega), ?_⟩
  intro p8 hp8; generalize eH : L2.upd _ p8 _ = H8; have s8 := L2.same_of hp8 eH; have t8 := L2.at_of eH; clear eH
  walk_at "go"
  refine ⟨(by show 3 ≤ sizeLine; omega), ?_⟩
  intro p9 hp9; generalize eH : L2.upd _ p9 _ = H9; have s9 := L2.same_of hp9 eH; have t9 := L2.at_of eH; clear eH
  have s59 := s57.trans (s8.trans s9)
  have s39 := s4.trans (s5.trans s59)
  have hS9 := s59.seq hS5
  walk_at "go"
  refine ⟨(by show 4 ≤ sizeLine; omega), ?_⟩
  intro q1 hq1; generalize eH : L2.upd _ q1 _ = H10; have s10 := L2.same_of hq1 eH; have t10 := L2.at_of eH; clear eH
  have hS10 := s10.seq hS9
  walk_at "go"
  refine ⟨a, ns, _, rfl, hS10, h63, by omega, by omega, fun c5' => ?_⟩
  walk_at "go"
  obtain ⟨way, aw, hway⟩ := Rm.at4 (show 0 ≤ c5' / 8 % 4 by omega) (by omega)
  refine ⟨q1, _, _, _, rfl, rfl, SqL.of t10, aw, ?_⟩
  clear aw
  have s3A := s39.trans s10
  have al10 : Rm.All2 (Rm.LimbAt H10) as ls := al3.mono fun c x h => s3A _ _ h
  have tl10 := s3A _ _ t3
  have e1A := s3A _ _ e13
  walk_at "go"
  refine ⟨p3, _, rfl, .inl (SqL.of tl10), ?_⟩
  intro q2 hq2; generalize eH : L2.upd _ q2 _ = H11; have s11 := L2.same_of hq2 eH; have t11 := L2.at_of eH; clear eH
  walk_at "go"
  refine ⟨a, ns, _, rfl, s11.seq hS10, h63, by omega, by omega, fun c5'' => ?_⟩
  walk_at "go"
  refine ⟨p1, _, _, _, rfl, rfl, SqL.of (s11 _ _ e1A), wat (by omega) (by omega), ?_⟩
  generalize hnm : (c5'' / 32 % 9).toNat = nm
  have nm9 : nm < 9 := by omega
  have s9B := s10.trans s11
  have s6B := s7.trans (s8.trans (s9.trans s9B))
  have t6B := s6B _ _ t6
  have t7B := s8.trans (s9.trans s9B) _ _ t7
  have t8B := s9.trans s9B _ _ t8
  have t9B := s9B _ _ t9
  have wsn : ∀ i j : Nat, i < 12 → ws[i]? = some (ws.getD i ⟨#[]⟩) := fun i _ h => wsat h
  have lsn : (Rm.nmsOf ls).Nodup := by
    unfold Rm.nmsOf
    rw [lh]
    exact wd.sublist (List.take_sublist _ _)
  have lsk : (Rm.nmsOf ls)[k.toNat]? = some (ws.getD k.toNat ⟨#[]⟩) := by
    unfold Rm.nmsOf
    rw [lh, List.getElem?_take, if_pos (by omega)]
    exact wsat (by omega)
  have wW : ∀ i : Nat, i < 12 → Ws.isW (ws.getD i ⟨#[]⟩) = true := fun i h => ww _ (List.mem_of_getElem? (wsat h))
  obtain ⟨fa, f, afa, ffa, hs, hfw, hfb⟩ : ∃ (fa : Addr) (f : Rm.Fm), atI [V.ref p6, .ref p7, .ref p8] way = some (.ref fa) ∧ Rm.FormAt H11 fa f ∧ ((way = 0 ∧ f = .rise (ws.getD k.toNat ⟨#[]⟩) g n) ∨ (way = 1 ∧ f = .hold n) ∨ (way = 2 ∧ f = .ring (ws.getD 9 ⟨#[]⟩) n)) ∧ Rm.FmWs f ∧ f.beats = n := by
    rcases hway with rfl | rfl | rfl
    · exact ⟨p6, .rise (ws.getD k.toNat ⟨#[]⟩) g n, rfl, t6B, .inl ⟨rfl, rfl⟩, ⟨wW _ (by omega), g0, by omega, by omega, by omega⟩, rfl⟩
    · exact ⟨p7, .hold n, rfl, t7B, .inr (.inl ⟨rfl, rfl⟩), ⟨by omega, by omega⟩, rfl⟩
    · exact ⟨p8, .ring (ws.getD 9 ⟨#[]⟩) n, rfl, t8B, .inr (.inr ⟨rfl, rfl⟩), ⟨wW 9 (by omega), by omega, by omega⟩, rfl⟩
  walk_at "go"
  refine ⟨p9, _, _, _, rfl, rfl, SqL.of t9B, afa, ?_⟩
  walk_at "go"
  refine ⟨(by show 2 ≤ sizeLine; omega), ?_⟩
  intro q3 hq3; generalize eH : L2.upd _ q3 _ = H12; have s12 := L2.same_of hq3 eH; have t12 := L2.at_of eH; clear eH
  walk_at "go"
  refine ⟨(by show 1 ≤ sizeLine; omega), ?_⟩
  intro q4 hq4; generalize eH : L2.upd _ q4 _ = H13; have s13' := L2.same_of hq4 eH; have t13 := L2.at_of eH; clear eH
  walk_at "go"
  refine ⟨(by show 2 ≤ sizeLine; omega), ?_⟩
  intro q5 hq5; generalize eH : L2.upd _ q5 _ = H14; have s14 := L2.same_of hq5 eH; have t14 := L2.at_of eH; clear eH
  have s11E := s12.trans (s13'.trans s14)
  have O : Rm.One ls (ws.getD nm ⟨#[]⟩) f := by
    refine ⟨⟨lsn, by omega, List.pairwise_singleton _ _, by show 1 ≤ 61; omega, fun i p hp => ?_, fun i y x h m hp => ?_⟩, ?_, by rw [hfb]; exact n2.1, by rw [hfb]; exact n2.2, hb⟩
    · have ep : p.2 = f := by
        have := List.mem_of_getElem? hp
        rw [List.mem_singleton.mp this]
      have en : p.2.ns = [] := by rw [ep]; rcases hs with ⟨_, rfl⟩ | ⟨_, rfl⟩ | ⟨_, rfl⟩ <;> rfl
      rw [en]
      exact ⟨(fun x h => nomatch h), Nat.zero_le _⟩
    · have := List.mem_singleton.mp (List.mem_of_getElem? hp)
      have ef : Rm.Fm.rise x h m = f := (Prod.mk.inj this).2
      rcases hs with ⟨_, e⟩ | ⟨_, e⟩ | ⟨_, e⟩
      · rw [e] at ef
        injection ef with ef _ _
        rw [ef]
        exact ⟨_, lsk⟩
      · rw [e] at ef; cases ef
      · rw [e] at ef; cases ef
    · rcases hs with ⟨_, e⟩ | ⟨_, e⟩ | ⟨_, e⟩
      · exact .inr (.inr ⟨_, _, _, e, g0, by omega⟩)
      · exact .inl ⟨_, e⟩
      · exact .inr (.inl ⟨_, _, e⟩)
  have B : Rm.BookAt H14 q5 q2 q4 as [q3] ls [(ws.getD nm ⟨#[]⟩, f)] :=
    ⟨t14, s11E _ _ t11, al10.mono fun c x h => s11E _ _ (s11 _ _ h), s14 _ _ t13, Rm.All2.snoc (xs := []) .nil ⟨fa, s13'.trans s14 _ _ t12, Rm.FormAt.same s11E ffa⟩⟩
  have OB : Rm.BkOk ls [(ws.getD nm ⟨#[]⟩, f)] := by
    refine ⟨by omega, fun p hp => ⟨?_, hb p hp⟩, by show 1 ≤ 61; omega, fun p hp => ?_⟩
    · have : p.1 ∈ ls.map (·.1) := List.mem_map.mpr ⟨p, hp, rfl⟩
      rw [lh] at this
      exact ww _ (List.mem_of_mem_take this)
    · rw [List.mem_singleton.mp hp]
      exact ⟨wW nm (by omega), hfw⟩
  have tlE := s11E _ _ (s11 _ _ tl10)
  have alE : Rm.All2 (Rm.LimbAt H14) as ls := al10.mono fun c x h => s11E _ _ (s11 _ _ h)
  have e1E := s11E _ _ (s11 _ _ e1A)
  have hSE := s11E.seq (s11.seq hS10)
  clear hS10 hS9 hS5 hS4 hS3 hS1 e15 e13 t6B t7B t8B t9B al10 al3
  walk_at "go"
  refine ⟨q5, _, _, _, rfl, rfl, SqT.of B.t, rfl, ?_⟩
  walk_at "go"
  refine ⟨q4, _, rfl, .inl (SqL.of B.p), ?_⟩
  intro q6 hq6; generalize eH : L2.upd _ q6 _ = H15; have s15 := L2.same_of hq6 eH; have t15 := L2.at_of eH; clear eH
  have B15 := B.same s15
  walk_at "go"
  refine ⟨(by show 2 ≤ sizeLine; omega), ?_⟩
  intro q7 hq7; generalize eH : L2.upd _ q7 _ = H16; have s16 := L2.same_of hq7 eH; have t16 := L2.at_of eH; clear eH
  have s5G := s15.trans s16
  have hSG := s5G.seq hSE
  walk_at "go"
  refine ⟨a, _, rfl, hSG, ?_⟩
  intro q8 hq8; generalize eH : L2.upd _ q8 _ = H17; have s17 := L2.same_of hq8 eH; have t17 := L2.at_of eH; clear eH
  refine ⟨q8, rfl, ⟨_, SqL.of t17⟩, ?_⟩
  have cl : (cutV (ns.map V.int) (some 6) (some 36)).length ≤ 63 := by
    unfold cutV
    rw [List.length_take, List.length_drop, List.length_map]
    omega
  refine comp_list (xs := cutV (ns.map V.int) (some 6) (some 36)) (fun i ys H' => ∃ bs : List Int, ys = bs.map V.int ∧ bs.length = i ∧ (∀ j ∈ bs, 0 ≤ j ∧ j ≤ n) ∧ Same H17 H') ⟨[], rfl, rfl, (fun j h => nomatch h), Same.refl _⟩ ?_ ?_ ?_
  · rintro i ys H' _ ⟨bs, rfl, lb, hbs, sm⟩
    exact SqL.of (sm _ _ t17)
  · rintro i v ys H' hv ⟨bs, rfl, lb, hbs, sm⟩
    obtain ⟨c, hc, rfl⟩ := Pr.mem_cut (List.mem_of_getElem? hv)
    have hi := (List.getElem?_eq_some_iff.mp hv).1
    refine rd_cap (σ' := [none, some _]) rfl ?_
    walk_at "go"
    refine iteT ?_
    walk_at "go"
    refine ⟨(by show 2 ≤ sizeLine; omega), ?_⟩
    intro q9 hq9; generalize eH : L2.upd _ q9 _ = H18; have s18 := L2.same_of hq9 eH; have t18 := L2.at_of eH; clear eH
    walk_at "go"
    obtain ⟨j6, a6, _⟩ := Rm.at2 (a := 1) (b := 10 ^ 15 + 37) (show 0 ≤ c % 2 by omega) (by omega)
    refine ⟨q9, _, _, _, rfl, rfl, SqL.of t18, a6, ?_⟩
    have j6b : -(2 ^ 64) < j6 ∧ j6 < 2 ^ 64 := by omega
    walk_at "go"
    have d0 := Int.emod_nonneg (c * j6) (show n + 1 ≠ 0 by omega)
    have d1 := Int.emod_lt_of_pos (c * j6) (show 0 < n + 1 by omega)
    refine ⟨by rw [List.length_map]; omega, bs ++ [c * j6 % (n + 1)], by rw [List.map_append]; rfl, by rw [List.length_append, lb]; rfl, fun j hj => ?_, sm.trans s18⟩
    rcases List.mem_append.mp hj with z | z
    · exact hbs j z
    · rw [List.mem_singleton.mp z]
      omega
  rintro ys H' ⟨bs, rfl, lb, hbs, sm⟩
  refine ⟨by rw [List.length_map]; omega, ?_⟩
  intro q9 hq9; generalize eH : L2.upd _ q9 _ = H18; have s18 := L2.same_of hq9 eH; have t18 := L2.at_of eH; clear eH
  have s17I := sm.trans s18
  have t16I := s17I _ _ (s17 _ _ t16)
  refine ⟨q7, q9, _, _, rfl, rfl, t16I, t18, by show 2 + _ ≤ _; rw [List.length_map]; omega, ?_⟩
  intro q10 hq10; generalize eH : L2.upd _ q10 _ = H19; have s19 := L2.same_of hq10 eH; have t19 := L2.at_of eH; clear eH
  have s5J := s5G.trans (s17.trans (s17I.trans s19))
  have bsn : ∀ j ∈ 0 :: n :: bs, 0 ≤ j ∧ j ≤ n := fun j hj => by
    rcases List.mem_cons.mp hj with rfl | hj
    · omega
    · rcases List.mem_cons.mp hj with rfl | hj
      · omega
      · exact hbs j hj
  have t19' : H19 q10 = some (.lst ((0 :: n :: bs).map V.int)) := t19
  clear t19 hbs hq7 hq8 hq9 hq10 sm
  walk_at "go"
  refine ⟨q10, rfl, ⟨_, SqL.of t19'⟩, ?_⟩
  refine for_list (xs := (0 :: n :: bs).map V.int) (fun i σ H' => ∃ (o11 o12 : Option V), σ = [some (.ref a), some (.ref p1), some (.int mm), some (.ref p3), some (.int n), some (.int g), some (.int k), some (.ref p9), some (.int way), some (.ref q5), some (.ref q6), o11, o12] ∧ Same H19 H') ⟨_, _, rfl, Same.refl _⟩ ?_ ?_ ?_
  · rintro i σ H' _ ⟨o11, o12, rfl, sm⟩
    exact SqL.of (sm _ _ t19')
  · rintro i v σ H' hv ⟨o11, o12, rfl, sm⟩
    obtain ⟨j, hj, rfl⟩ := List.mem_map.mp (List.mem_of_getElem? hv)
    obtain ⟨j0, j1⟩ := bsn j hj
    have sE := s5J.trans sm
    have BK := B.same sE
    have alK : Rm.All2 (Rm.LimbAt H') as ls := alE.mono fun c x h => sE _ _ h
    walk_at "go"
    refine ⟨p3, rfl, ⟨_, SqL.of (sE _ _ tlE)⟩, ?_⟩
    refine comp_list (xs := as.map V.ref) (fun i ys H'' => ys = ((ls.map (·.2)).take i).map V.int ∧ H' = H'') ⟨rfl, rfl⟩ ?_ ?_ ?_
    · rintro i ys H'' _ ⟨rfl, rfl⟩
      exact SqL.of (sE _ _ tlE)
    · rintro i v ys H'' hv ⟨rfl, rfl⟩
      obtain ⟨a', p, rfl, hp, hat⟩ := alK.at_ref hv
      have hi := (List.getElem?_eq_some_iff.mp hp).1
      refine rd_cap (σ' := [none, none]) rfl ?_
      refine rd_gT2 (SqT.of hat) ?_
      walk_at "go"
      refine iteT ?_
      walk_at "go"
      refine ⟨by rw [List.length_map, List.length_take, List.length_map]; omega, ?_, rfl⟩
      rw [Rm.take_snoc (show (ls.map (·.2))[i]? = some p.2 by rw [List.getElem?_map, hp]; rfl), List.map_append]
      rfl
    rintro ys H'' ⟨rfl, rfl⟩
    rw [show (as.map V.ref).length = (ls.map (·.2)).length by rw [List.length_map, List.length_map]; omega, List.take_length]
    refine ⟨by rw [List.length_map, List.length_map]; omega, ?_⟩
    intro q11 hq11; generalize eH : L2.upd _ q11 _ = H20; have s20 := L2.same_of hq11 eH; have t20 := L2.at_of eH; clear eH
    walk_at "go"
    refine ⟨fun σ' H'' => σ' = [some (.ref a), some (.ref p1), some (.int mm), some (.ref p3), some (.int n), some (.int g), some (.int k), some (.ref p9), some (.int way), some (.ref q5), some (.ref q6), some (.int j), some (.ref q11)] ∧ Same H' H'' ∧ H'' q11 = some (.lst ((Rm.dueH ls f j).map V.int)), ?_, ?_⟩
    rotate_left
    · walk_at "go"
      rcases hs with ⟨rfl, rfl⟩ | ⟨rfl, rfl⟩ | ⟨rfl, rfl⟩
      · refine iteD (fun _ => ?_) (fun c => absurd rfl c)
        have hk : (ls.map (·.2))[k.toNat]? = some ((ls.map (·.2)).getD k.toNat 0) := by rw [List.getD_eq_getElem?_getD, List.getElem?_eq_getElem (by rw [List.length_map]; omega)]; rfl
        have hk2 : atI ((ls.map (·.2)).map V.int) k = some (.int ((ls.map (·.2)).getD k.toNat 0)) := by
          have q : atI ((ls.map (·.2)).map V.int) ((k.toNat : Nat) : Int) = some (.int ((ls.map (·.2)).getD k.toNat 0)) := atI_nat (by rw [List.getElem?_map, hk]; rfl)
          rw [Int.toNat_of_nonneg k0] at q
          exact q
        obtain ⟨q0, hq0, eq0⟩ := List.mem_map.mp (List.mem_of_getElem? hk)
        have h0 := hb q0 hq0
        rw [eq0] at h0
        have h1 : -(10 ^ 18) ≤ g - (ls.map (·.2)).getD k.toNat 0 := by omega
        have h2 : g - (ls.map (·.2)).getD k.toNat 0 ≤ 10 ^ 18 := by omega
        walk_at "go"
        refine ⟨q11, _, _, _, rfl, rfl, SqL.of t20, hk2, ?_⟩
        walk_at "go"
        refine ⟨q11, _, _, _, rfl, rfl, SqL.of t20, hk2, ?_⟩
        walk_at "go"
        refine ⟨q11, _, _, k.toNat, rfl, rfl, t20, Rm.ixZ k0 (by rw [List.length_map, List.length_map]; omega), ?_⟩
        have n11 : ∀ {c u}, H' c = some u → c ≠ q11 := fun h => ne_of_none h hq11
        refine ⟨rfl, fun c u h => (upd_ne (n11 h)).trans (s20 _ _ h), upd_same.trans ?_⟩
        show _ = some (HO.lst (((ls.map (·.2)).set (Rm.ixOf (Rm.nmsOf ls) (ws.getD k.toNat ⟨#[]⟩)) (Rp.ramp ((ls.map (·.2)).getD (Rm.ixOf (Rm.nmsOf ls) (ws.getD k.toNat ⟨#[]⟩)) 0) g n j)).map V.int))
        rw [Rm.ixOf_at lsn lsk, List.map_set]
        rfl
      · refine iteD (fun c => absurd c (by decide)) (fun _ => ?_)
        walk_at "go"
        exact ⟨rfl, s20, t20⟩
      · refine iteD (fun c => absurd c (by decide)) (fun _ => ?_)
        walk_at "go"
        exact ⟨rfl, s20, t20⟩
    rintro σ' H21 ⟨rfl, s21, t21⟩
    have dl : (Rm.dueH ls f j).length = ls.length := by
      rcases hs with ⟨_, rfl⟩ | ⟨_, rfl⟩ | ⟨_, rfl⟩
      · show ((ls.map (·.2)).set _ _).length = _
        rw [List.length_set, List.length_map]
      · exact List.length_map _
      · exact List.length_map _
    have sE1 := sE.trans s21
    walk_at "go"
    refine ⟨q5, q2, q4, as, [q3], ls, _, f, j, rfl, B.same sE1, O, j0, by rw [hfb]; exact j1, fun l22 H22 s22 t22 => ?_⟩
    have t21' := s22 _ _ t21
    walk_at "go"
    refine ⟨l22, q11, _, rfl, t22, t21', fun x hx => ?_, by rw [List.length_map, dl]; omega, fun H23 s23 => ?_⟩
    · obtain ⟨i', _, rfl⟩ := List.mem_map.mp hx
      exact .inl ⟨_, rfl⟩
    have sE3 := sE1.trans (s22.trans s23)
    walk_at "go"
    refine iteF ?_
    walk_at "go"
    refine ⟨q5, q2, q4, as, [q3], ls, _, f, j, rfl, B.same sE3, O, j0, by rw [hfb]; exact j1, fun l24 H24 s24 t24 => ?_⟩
    have sE4 := sE3.trans s24
    walk_at "go"
    refine ⟨p1, _, _, _, rfl, rfl, SqL.of (sE4 _ _ e1E), wat (by omega) (by omega), ?_⟩
    walk_at "go"
    refine ⟨(by show 1 ≤ sizeLine; omega), ?_⟩
    intro q12 hq12; generalize eH : L2.upd _ q12 _ = H25; have s25 := L2.same_of hq12 eH; have t25 := L2.at_of eH; clear eH
    have rep : ∀ (bb : Bool), (bb = true ↔ (way = 2 ∧ j = 0)) → (List.replicate (if bb = true then (1 : Int) else 0).toNat [V.str (ws.getD (Int.toNat 9) ⟨#[]⟩)]).flatten = (Rm.dueW f j).map V.str := fun bb hbb => by
      rcases hs with ⟨rfl, rfl⟩ | ⟨rfl, rfl⟩ | ⟨rfl, rfl⟩
      · rw [if_neg (fun h => by have := (hbb.mp h).1; omega)]; rfl
      · rw [if_neg (fun h => by have := (hbb.mp h).1; omega)]; rfl
      · show _ = ((if j = 0 then [ws.getD 9 ⟨#[]⟩] else []).map V.str)
        by_cases z : j = 0
        · rw [if_pos (hbb.mpr ⟨rfl, z⟩), if_pos z]; rfl
        · rw [if_neg (fun h => z (hbb.mp h).2), if_neg z]; rfl
    have wl1 : (Rm.dueW f j).length ≤ 1 := by
      rcases hs with ⟨_, rfl⟩ | ⟨_, rfl⟩ | ⟨_, rfl⟩
      · exact Nat.zero_le _
      · exact Nat.zero_le _
      · show (if j = 0 then _ else _ : List Str).length ≤ 1
        split <;> simp
    have t24' := s25 _ _ t24
    have sE5 := sE4.trans s25
    walk_at "go"
    refine iteD (fun c1 => ?_) (fun c1 => ?_)
    · walk_at "go"
      refine .inr ⟨_, rfl, ?_⟩
      have rp := rep (decide (j = 0)) (by simp [c1])
      refine ⟨q12, _, _, rfl, rfl, t25, by split <;> omega, by split <;> omega, (by split <;> first | exact Nat.zero_le _ | (show 1 ≤ sizeLine; omega)), ?_⟩
      intro q14 hq14; generalize eH : L2.upd _ q14 _ = H27; have s27 := L2.same_of hq14 eH; have t27 := L2.at_of eH; clear eH
      rw [rp] at t27
      walk_at "go"
      refine ⟨l24, q14, _, rfl, s27 _ _ t24', t27, fun x hx => ?_, by rw [List.length_map]; omega, fun H28 s28 => ?_⟩
      · obtain ⟨z, _, rfl⟩ := List.mem_map.mp hx
        exact .inr ⟨_, rfl⟩
      walk_at "go"
      refine iteF ?_
      walk_at "go"
      exact ⟨_, _, rfl, sm.trans (s21.trans (s22.trans (s23.trans (s24.trans (s25.trans (s27.trans s28))))))⟩
    · walk_at "go"
      refine .inr ⟨_, rfl, ?_⟩
      have rp := rep false (by simp [c1])
      refine ⟨q12, _, _, rfl, rfl, t25, by decide, by decide, Nat.zero_le _, ?_⟩
      intro q14 hq14; generalize eH : L2.upd _ q14 _ = H27; have s27 := L2.same_of hq14 eH; have t27 := L2.at_of eH; clear eH
      rw [rp] at t27
      walk_at "go"
      refine ⟨l24, q14, _, rfl, s27 _ _ t24', t27, fun x hx => ?_, by rw [List.length_map]; omega, fun H28 s28 => ?_⟩
      · obtain ⟨z, _, rfl⟩ := List.mem_map.mp hx
        exact .inr ⟨_, rfl⟩
      walk_at "go"
      refine iteF ?_
      walk_at "go"
      exact ⟨_, _, rfl, sm.trans (s21.trans (s22.trans (s23.trans (s24.trans (s25.trans (s27.trans s28))))))⟩
  rintro σ' H' ⟨o11, o12, rfl, sm⟩
  have sE := s5J.trans sm
  have BZ := B.same sE
  walk_at "go"
  refine ⟨(by show 2 ≤ sizeLine; omega), ?_⟩
  intro q13 hq13; generalize eH : L2.upd _ q13 _ = H26; have s26 := L2.same_of hq13 eH; have t26 := L2.at_of eH; clear eH
  have BZ1 := BZ.same s26
  have CZ : Rm.BookAt H26 q13 p3 q6 as [q3] ls [(ws.getD nm ⟨#[]⟩, f)] := ⟨t26, s26 _ _ (sE _ _ tlE), BZ1.la, s26 _ _ (sm _ _ (s19 _ _ (s17I _ _ (s17 _ _ (s16 _ _ t15))))), BZ1.pa⟩
  refine ⟨_, _, BZ1.dv, CZ.dv, (Rm.shp_book OB).ok (by decide), (Rm.shp_book OB).ok (by decide), ?_⟩
  rw [Rm.eqv_book OB]
  exact q _
theorem all_law (T : Txt K mg t) : FnOk P w K mg base CX0 9 t.a_law t.d_law ["_law_script"] (Pr.sp_law K) := by
  have G_numbers_of : FnOk P w K mg base CX0 1 t.a_numbers_of t.d_numbers_of _ _ := ok_numbers_of T
  have G_names_in : FnOk P w K mg base CX0 1 t.a_names_in t.d_names_in _ _ := ok_names_in T
  have G_inner : FnOk P w K mg base CX0 2 t.a_inner t.d_inner _ _ := ok_inner T G_numbers_of G_names_in
  have G_ends : FnOk P w K mg base CX0 3 t.a_ends t.d_ends _ _ := ok_ends T G_numbers_of G_inner
  have G_moved : FnOk P w K mg base CX0 4 t.a_moved t.d_moved _ _ := ok_moved T G_ends
  have G_check_side : FnOk P w K mg base CX0 1 t.a_check_side t.d_check_side _ _ := ok_check_side T
  have G_length_of : FnOk P w K mg base CX0 1 t.a_length_of t.d_length_of _ _ := ok_length_of T
  have G_lengths : FnOk P w K mg base CX0 5 t.a_lengths t.d_lengths _ _ := ok_lengths T G_inner G_moved G_check_side G_length_of
  have G_pieces_in : FnOk P w K mg base CX0 1 t.a_pieces_in t.d_pieces_in _ _ := ok_pieces_in T
  have G_pieces_of : FnOk P w K mg base CX0 3 t.a_pieces_of t.d_pieces_of _ _ := ok_pieces_of T G_inner G_pieces_in
  have G_Stage___init__ : FnOk P w K mg base CX0 6 t.a_Stage___init__ t.d_Stage___init__ _ _ := ok_Stage___init__ T G_numbers_of G_ends G_lengths G_pieces_of
  have G_ramp : FnOk P w K mg base CX0 1 t.a_ramp t.d_ramp _ _ := ok_ramp T
  have G_progress : FnOk P w K mg base CX0 1 t.a_progress t.d_progress _ _ := ok_progress T
  have G_within : FnOk P w K mg base CX0 2 t.a_within t.d_within _ _ := ok_within T G_progress
  have G_Stage_scene : FnOk P w K mg base CX0 3 t.a_Stage_scene t.d_Stage_scene _ _ := ok_Stage_scene T G_within
  have G_Stage_heights_at : FnOk P w K mg base CX0 4 t.a_Stage_heights_at t.d_Stage_heights_at _ _ := ok_Stage_heights_at T G_ramp G_Stage_scene
  have G_stand : FnOk P w K mg base CX0 8 t.a_stand t.d_stand _ _ := ok_stand T G_Stage___init__ G_Stage_heights_at
  have G_Stage_words_at : FnOk P w K mg base CX0 4 t.a_Stage_words_at t.d_Stage_words_at _ _ := ok_Stage_words_at T G_Stage_scene
  have G_rings : FnOk P w K mg base CX0 8 t.a_rings t.d_rings _ _ := ok_rings T G_Stage___init__ G_Stage_words_at
  have G__law_cell : FnOk P w K mg base CX0 1 t.a__law_cell t.d__law_cell _ _ := ok__law_cell T
  have G__law_names : FnOk P w K mg base CX0 1 t.a__law_names t.d__law_names _ _ := ok__law_names T
  have G__law_alike : FnOk P w K mg base CX0 1 t.a__law_alike t.d__law_alike _ _ := ok__law_alike T
  exact ok_law T G_stand G_rings G__law_cell G__law_names G__law_alike
end
@[elab_as_elim] theorem uu1 {P : List Value → Prop} (us : List Value) (hl : us.length = 1) (h : ∀ a0, P [a0]) : P us := match us, hl with | [a0], _ => h a0
@[elab_as_elim] theorem uu2 {P : List Value → Prop} (us : List Value) (hl : us.length = 2) (h : ∀ a0 a1, P [a0, a1]) : P us := match us, hl with | [a0, a1], _ => h a0 a1
@[elab_as_elim] theorem uu3 {P : List Value → Prop} (us : List Value) (hl : us.length = 3) (h : ∀ a0 a1 a2, P [a0, a1, a2]) : P us := match us, hl with | [a0, a1, a2], _ => h a0 a1 a2
@[elab_as_elim] theorem uu4 {P : List Value → Prop} (us : List Value) (hl : us.length = 4) (h : ∀ a0 a1 a2 a3, P [a0, a1, a2, a3]) : P us := match us, hl with | [a0, a1, a2, a3], _ => h a0 a1 a2 a3
theorem txt_mk {K : PySem.W.Frag} {h : Heap} {mg : Str → Option Value} (X : K.In h) (G : h.Ns mainGlobals mg)
    {C_Stage : Addr}
    (aC_Stage : PySem.W.nsIn K mainGlobals "Stage" = some (some (.ref C_Stage))) (pg_Stage : PySem.W.plainGet K C_Stage Str.empty = true) (hd_Stage : PySem.W.hasDictIn K C_Stage = true) (po_Stage : PySem.W.plainOver K C_Stage = true) (sa_Stage : PySem.W.findIn K (.ref C_Stage) "__setattr__" = some (some (.builtin "object.__setattr__"))) (mk_Stage : PySem.W.makesIn K C_Stage = true) (kc_Stage : PySem.W.keepIn K (.ref C_Stage) = true) (n_Stage_limbs : PySem.W.findIn K (.ref C_Stage) "limbs" = some none) (n_Stage_first : PySem.W.findIn K (.ref C_Stage) "first" = some none) (n_Stage_forms : PySem.W.findIn K (.ref C_Stage) "forms" = some none) (n_Stage_sizes : PySem.W.findIn K (.ref C_Stage) "sizes" = some none) (n_Stage_left : PySem.W.findIn K (.ref C_Stage) "left" = some none) (n_Stage_pieces : PySem.W.findIn K (.ref C_Stage) "pieces" = some none)
    {od1 an1 : Option Addr} {sl1 : Array (Option Value)} {oc1 kV1 dc1 pm1 cd1 ct1 : Value} {f1 : Addr}
    (a1 : PySem.W.nsIn K mainGlobals "numbers_of" = some (some (.ref f1))) (l1 : K.lookup f1 = some ⟨oc1, od1, .func (PySem.W.fnOf "numbers_of" "numbers_of" (defArgs s_numbers_of) (defBody s_numbers_of) (defScope s_numbers_of) .none kV1 dc1 pm1 an1 cd1 ct1), sl1⟩) (c1 : PySem.W.codeIn K cd1 "numbers_of" = true) (k1 : PySem.W.keepIn K (.ref f1) = true)
    {od2 an2 : Option Addr} {sl2 : Array (Option Value)} {oc2 kV2 dc2 pm2 cd2 ct2 : Value} {f2 : Addr}
    (a2 : PySem.W.nsIn K mainGlobals "names_in" = some (some (.ref f2))) (l2 : K.lookup f2 = some ⟨oc2, od2, .func (PySem.W.fnOf "names_in" "names_in" (defArgs s_names_in) (defBody s_names_in) (defScope s_names_in) .none kV2 dc2 pm2 an2 cd2 ct2), sl2⟩) (c2 : PySem.W.codeIn K cd2 "names_in" = true) (k2 : PySem.W.keepIn K (.ref f2) = true)
    {od3 an3 : Option Addr} {sl3 : Array (Option Value)} {oc3 kV3 dc3 pm3 cd3 ct3 : Value} {f3 : Addr}
    (a3 : PySem.W.nsIn K mainGlobals "inner" = some (some (.ref f3))) (l3 : K.lookup f3 = some ⟨oc3, od3, .func (PySem.W.fnOf "inner" "inner" (defArgs s_inner) (defBody s_inner) (defScope s_inner) .none kV3 dc3 pm3 an3 cd3 ct3), sl3⟩) (c3 : PySem.W.codeIn K cd3 "inner" = true) (k3 : PySem.W.keepIn K (.ref f3) = true)
    {od4 an4 : Option Addr} {sl4 : Array (Option Value)} {oc4 kV4 dc4 pm4 cd4 ct4 : Value} {f4 : Addr}
    (a4 : PySem.W.nsIn K mainGlobals "ends" = some (some (.ref f4))) (l4 : K.lookup f4 = some ⟨oc4, od4, .func (PySem.W.fnOf "ends" "ends" (defArgs s_ends) (defBody s_ends) (defScope s_ends) .none kV4 dc4 pm4 an4 cd4 ct4), sl4⟩) (c4 : PySem.W.codeIn K cd4 "ends" = true) (k4 : PySem.W.keepIn K (.ref f4) = true)
    {od5 an5 : Option Addr} {sl5 : Array (Option Value)} {oc5 kV5 dc5 pm5 cd5 ct5 : Value} {f5 : Addr}
    (a5 : PySem.W.nsIn K mainGlobals "moved" = some (some (.ref f5))) (l5 : K.lookup f5 = some ⟨oc5, od5, .func (PySem.W.fnOf "moved" "moved" (defArgs s_moved) (defBody s_moved) (defScope s_moved) .none kV5 dc5 pm5 an5 cd5 ct5), sl5⟩) (c5 : PySem.W.codeIn K cd5 "moved" = true) (k5 : PySem.W.keepIn K (.ref f5) = true)
    {od6 an6 : Option Addr} {sl6 : Array (Option Value)} {oc6 kV6 dc6 pm6 cd6 ct6 : Value} {f6 : Addr}
    (a6 : PySem.W.nsIn K mainGlobals "check_side" = some (some (.ref f6))) (l6 : K.lookup f6 = some ⟨oc6, od6, .func (PySem.W.fnOf "check_side" "check_side" (defArgs s_check_side) (defBody s_check_side) (defScope s_check_side) .none kV6 dc6 pm6 an6 cd6 ct6), sl6⟩) (c6 : PySem.W.codeIn K cd6 "check_side" = true) (k6 : PySem.W.keepIn K (.ref f6) = true)
    {od7 an7 : Option Addr} {sl7 : Array (Option Value)} {oc7 kV7 dc7 pm7 cd7 ct7 : Value} {f7 : Addr}
    (a7 : PySem.W.nsIn K mainGlobals "length_of" = some (some (.ref f7))) (l7 : K.lookup f7 = some ⟨oc7, od7, .func (PySem.W.fnOf "length_of" "length_of" (defArgs s_length_of) (defBody s_length_of) (defScope s_length_of) .none kV7 dc7 pm7 an7 cd7 ct7), sl7⟩) (c7 : PySem.W.codeIn K cd7 "length_of" = true) (k7 : PySem.W.keepIn K (.ref f7) = true)
    {od8 an8 : Option Addr} {sl8 : Array (Option Value)} {oc8 kV8 dc8 pm8 cd8 ct8 : Value} {f8 : Addr}
    (a8 : PySem.W.nsIn K mainGlobals "lengths" = some (some (.ref f8))) (l8 : K.lookup f8 = some ⟨oc8, od8, .func (PySem.W.fnOf "lengths" "lengths" (defArgs s_lengths) (defBody s_lengths) (defScope s_lengths) .none kV8 dc8 pm8 an8 cd8 ct8), sl8⟩) (c8 : PySem.W.codeIn K cd8 "lengths" = true) (k8 : PySem.W.keepIn K (.ref f8) = true)
    {od9 an9 : Option Addr} {sl9 : Array (Option Value)} {oc9 kV9 dc9 pm9 cd9 ct9 : Value} {f9 : Addr}
    (a9 : PySem.W.nsIn K mainGlobals "ramp" = some (some (.ref f9))) (l9 : K.lookup f9 = some ⟨oc9, od9, .func (PySem.W.fnOf "ramp" "ramp" (defArgs s_ramp) (defBody s_ramp) (defScope s_ramp) .none kV9 dc9 pm9 an9 cd9 ct9), sl9⟩) (c9 : PySem.W.codeIn K cd9 "ramp" = true) (k9 : PySem.W.keepIn K (.ref f9) = true)
    {od10 an10 : Option Addr} {sl10 : Array (Option Value)} {oc10 kV10 dc10 pm10 cd10 ct10 : Value} {f10 : Addr}
    (a10 : PySem.W.nsIn K mainGlobals "pieces_in" = some (some (.ref f10))) (l10 : K.lookup f10 = some ⟨oc10, od10, .func (PySem.W.fnOf "pieces_in" "pieces_in" (defArgs s_pieces_in) (defBody s_pieces_in) (defScope s_pieces_in) .none kV10 dc10 pm10 an10 cd10 ct10), sl10⟩) (c10 : PySem.W.codeIn K cd10 "pieces_in" = true) (k10 : PySem.W.keepIn K (.ref f10) = true)
    {od11 an11 : Option Addr} {sl11 : Array (Option Value)} {oc11 kV11 dc11 pm11 cd11 ct11 : Value} {f11 : Addr}
    (a11 : PySem.W.nsIn K mainGlobals "pieces_of" = some (some (.ref f11))) (l11 : K.lookup f11 = some ⟨oc11, od11, .func (PySem.W.fnOf "pieces_of" "pieces_of" (defArgs s_pieces_of) (defBody s_pieces_of) (defScope s_pieces_of) .none kV11 dc11 pm11 an11 cd11 ct11), sl11⟩) (c11 : PySem.W.codeIn K cd11 "pieces_of" = true) (k11 : PySem.W.keepIn K (.ref f11) = true)
    {od12 an12 : Option Addr} {sl12 : Array (Option Value)} {oc12 kV12 dc12 pm12 cd12 ct12 : Value} {f12 : Addr}
    (a12 : PySem.W.nsIn K mainGlobals "progress" = some (some (.ref f12))) (l12 : K.lookup f12 = some ⟨oc12, od12, .func (PySem.W.fnOf "progress" "progress" (defArgs s_progress) (defBody s_progress) (defScope s_progress) .none kV12 dc12 pm12 an12 cd12 ct12), sl12⟩) (c12 : PySem.W.codeIn K cd12 "progress" = true) (k12 : PySem.W.keepIn K (.ref f12) = true)
    {od13 an13 : Option Addr} {sl13 : Array (Option Value)} {oc13 kV13 dc13 pm13 cd13 ct13 : Value} {f13 : Addr}
    (a13 : PySem.W.nsIn K mainGlobals "within" = some (some (.ref f13))) (l13 : K.lookup f13 = some ⟨oc13, od13, .func (PySem.W.fnOf "within" "within" (defArgs s_within) (defBody s_within) (defScope s_within) .none kV13 dc13 pm13 an13 cd13 ct13), sl13⟩) (c13 : PySem.W.codeIn K cd13 "within" = true) (k13 : PySem.W.keepIn K (.ref f13) = true)
    {od14 an14 : Option Addr} {sl14 : Array (Option Value)} {oc14 kV14 dc14 pm14 cd14 ct14 : Value} {f14 : Addr}
    (a14 : PySem.W.findIn K (.ref C_Stage) "__init__" = some (some (.ref f14))) (i14 : PySem.W.isFn K (.ref f14) = true) (l14 : K.lookup f14 = some ⟨oc14, od14, .func (PySem.W.fnOf "__init__" "Stage.__init__" (defArgs s_Stage___init__) (defBody s_Stage___init__) (defScope s_Stage___init__) .none kV14 dc14 pm14 an14 cd14 ct14), sl14⟩) (c14 : PySem.W.codeIn K cd14 "Stage.__init__" = true) (k14 : PySem.W.keepIn K (.ref f14) = true)
    {od15 an15 : Option Addr} {sl15 : Array (Option Value)} {oc15 kV15 dc15 pm15 cd15 ct15 : Value} {f15 : Addr}
    (a15 : PySem.W.findIn K (.ref C_Stage) "scene" = some (some (.ref f15))) (i15 : PySem.W.isFn K (.ref f15) = true) (l15 : K.lookup f15 = some ⟨oc15, od15, .func (PySem.W.fnOf "scene" "Stage.scene" (defArgs s_Stage_scene) (defBody s_Stage_scene) (defScope s_Stage_scene) .none kV15 dc15 pm15 an15 cd15 ct15), sl15⟩) (c15 : PySem.W.codeIn K cd15 "Stage.scene" = true) (k15 : PySem.W.keepIn K (.ref f15) = true)
    {od16 an16 : Option Addr} {sl16 : Array (Option Value)} {oc16 kV16 dc16 pm16 cd16 ct16 : Value} {f16 : Addr}
    (a16 : PySem.W.findIn K (.ref C_Stage) "heights_at" = some (some (.ref f16))) (i16 : PySem.W.isFn K (.ref f16) = true) (l16 : K.lookup f16 = some ⟨oc16, od16, .func (PySem.W.fnOf "heights_at" "Stage.heights_at" (defArgs s_Stage_heights_at) (defBody s_Stage_heights_at) (defScope s_Stage_heights_at) .none kV16 dc16 pm16 an16 cd16 ct16), sl16⟩) (c16 : PySem.W.codeIn K cd16 "Stage.heights_at" = true) (k16 : PySem.W.keepIn K (.ref f16) = true)
    {od17 an17 : Option Addr} {sl17 : Array (Option Value)} {oc17 kV17 dc17 pm17 cd17 ct17 : Value} {f17 : Addr}
    (a17 : PySem.W.findIn K (.ref C_Stage) "words_at" = some (some (.ref f17))) (i17 : PySem.W.isFn K (.ref f17) = true) (l17 : K.lookup f17 = some ⟨oc17, od17, .func (PySem.W.fnOf "words_at" "Stage.words_at" (defArgs s_Stage_words_at) (defBody s_Stage_words_at) (defScope s_Stage_words_at) .none kV17 dc17 pm17 an17 cd17 ct17), sl17⟩) (c17 : PySem.W.codeIn K cd17 "Stage.words_at" = true) (k17 : PySem.W.keepIn K (.ref f17) = true)
    {od18 an18 : Option Addr} {sl18 : Array (Option Value)} {oc18 kV18 dc18 pm18 cd18 ct18 : Value} {f18 : Addr}
    (a18 : PySem.W.nsIn K mainGlobals "stand" = some (some (.ref f18))) (l18 : K.lookup f18 = some ⟨oc18, od18, .func (PySem.W.fnOf "stand" "stand" (defArgs s_stand) (defBody s_stand) (defScope s_stand) .none kV18 dc18 pm18 an18 cd18 ct18), sl18⟩) (c18 : PySem.W.codeIn K cd18 "stand" = true) (k18 : PySem.W.keepIn K (.ref f18) = true)
    {od19 an19 : Option Addr} {sl19 : Array (Option Value)} {oc19 kV19 dc19 pm19 cd19 ct19 : Value} {f19 : Addr}
    (a19 : PySem.W.nsIn K mainGlobals "rings" = some (some (.ref f19))) (l19 : K.lookup f19 = some ⟨oc19, od19, .func (PySem.W.fnOf "rings" "rings" (defArgs s_rings) (defBody s_rings) (defScope s_rings) .none kV19 dc19 pm19 an19 cd19 ct19), sl19⟩) (c19 : PySem.W.codeIn K cd19 "rings" = true) (k19 : PySem.W.keepIn K (.ref f19) = true)
    {od20 an20 : Option Addr} {sl20 : Array (Option Value)} {oc20 kV20 dc20 pm20 cd20 ct20 : Value} {f20 : Addr}
    (a20 : PySem.W.nsIn K mainGlobals "_law_cell" = some (some (.ref f20))) (l20 : K.lookup f20 = some ⟨oc20, od20, .func (PySem.W.fnOf "_law_cell" "_law_cell" (defArgs s__law_cell) (defBody s__law_cell) (defScope s__law_cell) .none kV20 dc20 pm20 an20 cd20 ct20), sl20⟩) (c20 : PySem.W.codeIn K cd20 "_law_cell" = true) (k20 : PySem.W.keepIn K (.ref f20) = true)
    {od21 an21 : Option Addr} {sl21 : Array (Option Value)} {oc21 kV21 dc21 pm21 cd21 ct21 : Value} {f21 : Addr}
    (a21 : PySem.W.nsIn K mainGlobals "_law_names" = some (some (.ref f21))) (l21 : K.lookup f21 = some ⟨oc21, od21, .func (PySem.W.fnOf "_law_names" "_law_names" (defArgs s__law_names) (defBody s__law_names) (defScope s__law_names) .none kV21 dc21 pm21 an21 cd21 ct21), sl21⟩) (c21 : PySem.W.codeIn K cd21 "_law_names" = true) (k21 : PySem.W.keepIn K (.ref f21) = true)
    {od22 an22 : Option Addr} {sl22 : Array (Option Value)} {oc22 kV22 dc22 pm22 cd22 ct22 : Value} {f22 : Addr}
    (a22 : PySem.W.nsIn K mainGlobals "_law_alike" = some (some (.ref f22))) (l22 : K.lookup f22 = some ⟨oc22, od22, .func (PySem.W.fnOf "_law_alike" "_law_alike" (defArgs s__law_alike) (defBody s__law_alike) (defScope s__law_alike) .none kV22 dc22 pm22 an22 cd22 ct22), sl22⟩) (c22 : PySem.W.codeIn K cd22 "_law_alike" = true) (k22 : PySem.W.keepIn K (.ref f22) = true)
    {od23 an23 : Option Addr} {sl23 : Array (Option Value)} {oc23 kV23 dc23 pm23 cd23 ct23 : Value} {f23 : Addr}
    (a23 : PySem.W.nsIn K mainGlobals "law" = some (some (.ref f23))) (l23 : K.lookup f23 = some ⟨oc23, od23, .func (PySem.W.fnOf "law" "law" (defArgs s_law) (defBody s_law) (defScope s_law) .none kV23 dc23 pm23 an23 cd23 ct23), sl23⟩) (c23 : PySem.W.codeIn K cd23 "law" = true) (k23 : PySem.W.keepIn K (.ref f23) = true)
    {u_MOST_NAMES : Addr}
    (g_MOST_NAMES : PySem.W.nsIn K mainGlobals "MOST_NAMES" = some (some (.ref u_MOST_NAMES))) (kk_MOST_NAMES : TabK K u_MOST_NAMES [("row", .flat (.int 8)), ("side", .flat (.int 4))])
    (z0 : PySem.W.nsIn K mainGlobals "bool" = some none) (z1 : PySem.W.nsIn K mainGlobals "dict" = some none) (z2 : PySem.W.nsIn K mainGlobals "enumerate" = some none) (z3 : PySem.W.nsIn K mainGlobals "int" = some none) (z4 : PySem.W.nsIn K mainGlobals "isinstance" = some none) (z5 : PySem.W.nsIn K mainGlobals "len" = some none) (z6 : PySem.W.nsIn K mainGlobals "list" = some none) (z7 : PySem.W.nsIn K mainGlobals "max" = some none) (z8 : PySem.W.nsIn K mainGlobals "min" = some none) (z9 : PySem.W.nsIn K mainGlobals "range" = some none) (z10 : PySem.W.nsIn K mainGlobals "sorted" = some none) (z11 : PySem.W.nsIn K mainGlobals "str" = some none) (z12 : PySem.W.nsIn K mainGlobals "sum" = some none) (z13 : PySem.W.nsIn K mainGlobals "zip" = some none) :
    ∃ t : Ad, Txt K mg t ∧ ∃ (kV dc pm : Value) (an : Option Addr) (cd ct : Value), t.d_law = PySem.W.fnOf "law" "law" (defArgs s_law) (defBody s_law) (defScope s_law) .none kV dc pm an cd ct := by
  have F1 := fun_mk (st := s_numbers_of) l1 c1 k1
  have F2 := fun_mk (st := s_names_in) l2 c2 k2
  have F3 := fun_mk (st := s_inner) l3 c3 k3
  have F4 := fun_mk (st := s_ends) l4 c4 k4
  have F5 := fun_mk (st := s_moved) l5 c5 k5
  have F6 := fun_mk (st := s_check_side) l6 c6 k6
  have F7 := fun_mk (st := s_length_of) l7 c7 k7
  have F8 := fun_mk (st := s_lengths) l8 c8 k8
  have F9 := fun_mk (st := s_ramp) l9 c9 k9
  have F10 := fun_mk (st := s_pieces_in) l10 c10 k10
  have F11 := fun_mk (st := s_pieces_of) l11 c11 k11
  have F12 := fun_mk (st := s_progress) l12 c12 k12
  have F13 := fun_mk (st := s_within) l13 c13 k13
  have F14 := fun_mk (st := s_Stage___init__) l14 c14 k14
  have F15 := fun_mk (st := s_Stage_scene) l15 c15 k15
  have F16 := fun_mk (st := s_Stage_heights_at) l16 c16 k16
  have F17 := fun_mk (st := s_Stage_words_at) l17 c17 k17
  have F18 := fun_mk (st := s_stand) l18 c18 k18
  have F19 := fun_mk (st := s_rings) l19 c19 k19
  have F20 := fun_mk (st := s__law_cell) l20 c20 k20
  have F21 := fun_mk (st := s__law_names) l21 c21 k21
  have F22 := fun_mk (st := s__law_alike) l22 c22 k22
  have F23 := fun_mk (st := s_law) l23 c23 k23
  exact ⟨⟨f1, _, f2, _, f3, _, f4, _, f5, _, f6, _, f7, _, f8, _, f9, _, f10, _, f11, _, f12, _, f13, _, f14, _, f15, _, f16, _, f17, _, f18, _, f19, _, f20, _, f21, _, f22, _, f23, _, C_Stage, _⟩, ⟨F1, PySem.W.mg_of X G a1, (F1.binds (ps := ["named"]) fun _ _ _ _ _ _ us hl => uu1 us hl (fun _ => rfl)),
    F2, PySem.W.mg_of X G a2, (F2.binds (ps := ["form"]) fun _ _ _ _ _ _ us hl => uu1 us hl (fun _ => rfl)),
    F3, PySem.W.mg_of X G a3, (F3.binds (ps := ["book"]) fun _ _ _ _ _ _ us hl => uu1 us hl (fun _ => rfl)),
    F4, PySem.W.mg_of X G a4, (F4.binds (ps := ["book"]) fun _ _ _ _ _ _ us hl => uu1 us hl (fun _ => rfl)),
    F5, PySem.W.mg_of X G a5, (F5.binds (ps := ["book"]) fun _ _ _ _ _ _ us hl => uu1 us hl (fun _ => rfl)),
    F6, PySem.W.mg_of X G a6, (F6.binds (ps := ["row", "moves", "limbs"]) fun _ _ _ _ _ _ us hl => uu3 us hl (fun _ _ _ => rfl)),
    F7, PySem.W.mg_of X G a7, (F7.binds (ps := ["form", "inside"]) fun _ _ _ _ _ _ us hl => uu2 us hl (fun _ _ => rfl)),
    F8, PySem.W.mg_of X G a8, (F8.binds (ps := ["book"]) fun _ _ _ _ _ _ us hl => uu1 us hl (fun _ => rfl)),
    F9, PySem.W.mg_of X G a9, (F9.binds (ps := ["start", "goal", "beats", "j"]) fun _ _ _ _ _ _ us hl => uu4 us hl (fun _ _ _ _ => rfl)),
    F10, PySem.W.mg_of X G a10, (F10.binds (ps := ["form", "inside", "sizes"]) fun _ _ _ _ _ _ us hl => uu3 us hl (fun _ _ _ => rfl)),
    F11, PySem.W.mg_of X G a11, (F11.binds (ps := ["book", "sizes"]) fun _ _ _ _ _ _ us hl => uu2 us hl (fun _ _ => rfl)),
    F12, PySem.W.mg_of X G a12, (F12.binds (ps := ["pieces", "sizes", "gone"]) fun _ _ _ _ _ _ us hl => uu3 us hl (fun _ _ _ => rfl)),
    F13, PySem.W.mg_of X G a13, (F13.binds (ps := ["pieces", "sizes", "gone"]) fun _ _ _ _ _ _ us hl => uu3 us hl (fun _ _ _ => rfl)),
    F14, ⟨a14, i14, k14⟩, (F14.binds (ps := ["self", "book"]) fun _ _ _ _ _ _ us hl => uu2 us hl (fun _ _ => rfl)),
    F15, ⟨a15, i15, k15⟩, (F15.binds (ps := ["self", "beat"]) fun _ _ _ _ _ _ us hl => uu2 us hl (fun _ _ => rfl)),
    F16, ⟨a16, i16, k16⟩, (F16.binds (ps := ["self", "beat"]) fun _ _ _ _ _ _ us hl => uu2 us hl (fun _ _ => rfl)),
    F17, ⟨a17, i17, k17⟩, (F17.binds (ps := ["self", "beat"]) fun _ _ _ _ _ _ us hl => uu2 us hl (fun _ _ => rfl)),
    F18, PySem.W.mg_of X G a18, (F18.binds (ps := ["book", "beat"]) fun _ _ _ _ _ _ us hl => uu2 us hl (fun _ _ => rfl)),
    F19, PySem.W.mg_of X G a19, (F19.binds (ps := ["book", "beat"]) fun _ _ _ _ _ _ us hl => uu2 us hl (fun _ _ => rfl)),
    F20, PySem.W.mg_of X G a20, (F20.binds (ps := ["_law_script", "_law_k"]) fun _ _ _ _ _ _ us hl => uu2 us hl (fun _ _ => rfl)),
    F21, PySem.W.mg_of X G a21, (F21.binds (ps := ["_law_cell_here", "_law_many"]) fun _ _ _ _ _ _ us hl => uu2 us hl (fun _ _ => rfl)),
    F22, PySem.W.mg_of X G a22, (F22.binds (ps := ["_law_found", "_law_due"]) fun _ _ _ _ _ _ us hl => uu2 us hl (fun _ _ => rfl)),
    F23, PySem.W.mg_of X G a23, (F23.binds (ps := ["_law_script"]) fun _ _ _ _ _ _ us hl => uu1 us hl (fun _ => rfl)),
    ⟨pg_Stage, hd_Stage, po_Stage, sa_Stage⟩, ⟨mk_Stage, a14, i14, kc_Stage⟩, PySem.W.mg_of X G aC_Stage, n_Stage_limbs, n_Stage_first, n_Stage_forms, n_Stage_sizes, n_Stage_left, n_Stage_pieces,
    PySem.W.mg_none_of X G z0,
    PySem.W.mg_none_of X G z1,
    PySem.W.mg_none_of X G z2,
    PySem.W.mg_none_of X G z3,
    PySem.W.mg_none_of X G z4,
    PySem.W.mg_none_of X G z5,
    PySem.W.mg_none_of X G z6,
    PySem.W.mg_none_of X G z7,
    PySem.W.mg_none_of X G z8,
    PySem.W.mg_none_of X G z9,
    PySem.W.mg_none_of X G z10,
    PySem.W.mg_none_of X G z11,
    PySem.W.mg_none_of X G z12,
    PySem.W.mg_none_of X G z13,
    PySem.W.mg_of X G g_MOST_NAMES, kk_MOST_NAMES⟩, _, _, _, _, _, _, rfl⟩
end K16
open PySem PySem.W PyProof.Rows
set_option maxRecDepth 100000 in
set_option maxHeartbeats 0 in
theorem PySem.Challenge.cw_camplay_k16_one_part_far_holds : PySem.Challenge.rw_camplay_k16_one_part_far.Holds := by
  w_on; o_law; k_head; (case hw => w_witness2)
  k_fill
  refine L2.walk_ofB (l := PySem.Challenge.rw_camplay_k16_one_part_far) (n := 63) (k := 9) (x := "_law_script") (CX := L2.CX0) (sp := Pr.sp_law) rfl (by decide) rfl ⟨rfl, by decide, by decide⟩ (fun w h Y => PySem.W.kIn_of Y) ?F (fun K H a ns hl hb hO hS => ⟨a, ns, rfl, hS, hl, hb, fun _ => rfl⟩) (fun _ _ _ _ z => z)
  case F =>
    intro w mg fa h KX G hmg
    have TT : ∃ t : K16.Ad, K16.Txt (L2.KOf KX) mg t ∧ ∃ (kV dc pm : Value) (an : Option Addr) (cd ct : Value), t.d_law = PySem.W.fnOf "law" "law" (L2.defArgs K16.s_law) (L2.defBody K16.s_law) (L2.defScope K16.s_law) .none kV dc pm an cd ct := by
      dsimp only [L2.KOf]
      refine' K16.txt_mk KX G ?aC_Stage ?pg_Stage ?hd_Stage ?po_Stage ?sa_Stage ?mk_Stage ?kc_Stage ?n_Stage_limbs ?n_Stage_first ?n_Stage_forms ?n_Stage_sizes ?n_Stage_left ?n_Stage_pieces ?a1 ?l1 ?c1 ?k1 ?a2 ?l2 ?c2 ?k2 ?a3 ?l3 ?c3 ?k3 ?a4 ?l4 ?c4 ?k4 ?a5 ?l5 ?c5 ?k5 ?a6 ?l6 ?c6 ?k6 ?a7 ?l7 ?c7 ?k7 ?a8 ?l8 ?c8 ?k8 ?a9 ?l9 ?c9 ?k9 ?a10 ?l10 ?c10 ?k10 ?a11 ?l11 ?c11 ?k11 ?a12 ?l12 ?c12 ?k12 ?a13 ?l13 ?c13 ?k13 ?a14 ?i14 ?l14 ?c14 ?k14 ?a15 ?i15 ?l15 ?c15 ?k15 ?a16 ?i16 ?l16 ?c16 ?k16 ?a17 ?i17 ?l17 ?c17 ?k17 ?a18 ?l18 ?c18 ?k18 ?a19 ?l19 ?c19 ?k19 ?a20 ?l20 ?c20 ?k20 ?a21 ?l21 ?c21 ?k21 ?a22 ?l22 ?c22 ?k22 ?a23 ?l23 ?c23 ?k23 ?g_MOST_NAMES ?kk_MOST_NAMES ?z0 ?z1 ?z2 ?z3 ?z4 ?z5 ?z6 ?z7 ?z8 ?z9 ?z10 ?z11 ?z12 ?z13 
      (case aC_Stage => k_is); (case pg_Stage => k_is); (case hd_Stage => k_is); (case po_Stage => k_is); (case sa_Stage => k_is); (case mk_Stage => k_is); (case kc_Stage => k_is); (case n_Stage_limbs => k_is); (case n_Stage_first => k_is); (case n_Stage_forms => k_is); (case n_Stage_sizes => k_is); (case n_Stage_left => k_is); (case n_Stage_pieces => k_is)
      (case a1 => k_is); (case l1 => k_is); (case c1 => k_is); (case k1 => k_is)
      (case a2 => k_is); (case l2 => k_is); (case c2 => k_is); (case k2 => k_is)
      (case a3 => k_is); (case l3 => k_is); (case c3 => k_is); (case k3 => k_is)
      (case a4 => k_is); (case l4 => k_is); (case c4 => k_is); (case k4 => k_is)
      (case a5 => k_is); (case l5 => k_is); (case c5 => k_is); (case k5 => k_is)
      (case a6 => k_is); (case l6 => k_is); (case c6 => k_is); (case k6 => k_is)
      (case a7 => k_is); (case l7 => k_is); (case c7 => k_is); (case k7 => k_is)
      (case a8 => k_is); (case l8 => k_is); (case c8 => k_is); (case k8 => k_is)
      (case a9 => k_is); (case l9 => k_is); (case c9 => k_is); (case k9 => k_is)
      (case a10 => k_is); (case l10 => k_is); (case c10 => k_is); (case k10 => k_is)
      (case a11 => k_is); (case l11 => k_is); (case c11 => k_is); (case k11 => k_is)
      (case a12 => k_is); (case l12 => k_is); (case c12 => k_is); (case k12 => k_is)
      (case a13 => k_is); (case l13 => k_is); (case c13 => k_is); (case k13 => k_is)
      (case a14 => k_is); (case i14 => k_is)
      (case l14 => k_is); (case c14 => k_is); (case k14 => k_is)
      (case a15 => k_is); (case i15 => k_is)
      (case l15 => k_is); (case c15 => k_is); (case k15 => k_is)
      (case a16 => k_is); (case i16 => k_is)
      (case l16 => k_is); (case c16 => k_is); (case k16 => k_is)
      (case a17 => k_is); (case i17 => k_is)
      (case l17 => k_is); (case c17 => k_is); (case k17 => k_is)
      (case a18 => k_is); (case l18 => k_is); (case c18 => k_is); (case k18 => k_is)
      (case a19 => k_is); (case l19 => k_is); (case c19 => k_is); (case k19 => k_is)
      (case a20 => k_is); (case l20 => k_is); (case c20 => k_is); (case k20 => k_is)
      (case a21 => k_is); (case l21 => k_is); (case c21 => k_is); (case k21 => k_is)
      (case a22 => k_is); (case l22 => k_is); (case c22 => k_is); (case k22 => k_is)
      (case a23 => k_is); (case l23 => k_is); (case c23 => k_is); (case k23 => k_is)
      (case g_MOST_NAMES => k_is); (case kk_MOST_NAMES => (show PyProof.Rows.KTD.tabLook _ _ _ _ = true); kernel_rfl)
      (case z0 => k_is)
      (case z1 => k_is)
      (case z2 => k_is)
      (case z3 => k_is)
      (case z4 => k_is)
      (case z5 => k_is)
      (case z6 => k_is)
      (case z7 => k_is)
      (case z8 => k_is)
      (case z9 => k_is)
      (case z10 => k_is)
      (case z11 => k_is)
      (case z12 => k_is)
      (case z13 => k_is)
    obtain ⟨t, T, kV, dc, pm, an, cd, ct, e⟩ := TT
    have e0 := hmg.symm.trans T.m_law
    cases e0
    refine ⟨t.d_law, fun s v => ?_, fun base _ _ => K16.all_law T⟩
    rw [e]
    exact .of_eq rfl
#print axioms PySem.Challenge.cw_camplay_k16_one_part_far_holds

