/- Joined by program. -/
import Derived.Test.YtjakeidbajkdcaaGreatDoorG45
import Derived.Test.YtjakeidbajkdcaaGreatDoorG36
import Derived.Laws.OwnMore
import Derived.BigGuardPart
set_option maxRecDepth 100000
set_option maxHeartbeats 8000000
namespace Go.Proofs.YtjakeidbajkdcaaGreatDoor.B
open T Go.RowKit Go.Shelf
open A (Fr)
theorem fldInfo : (Tryz.prog.info? 97).map (fun i => (i.zero, i.size, i.bytes)) = some (some (.agg #[.string ⟨#[]⟩, .string ⟨#[]⟩, .int .i64 0]), 3, 40) := by kernel_rfl
theorem exInfo : (Tryz.prog.info? 25).map (fun i => (i.zero, i.size, i.bytes)) = some (some (.agg #[.slice none 0 0]), 1, 24) := by kernel_rfl
theorem zah {P : Program} (w : World) {ops : Array Oper} {rest : List Oper} {o : Oper} {a : Act} {Q : Exit -> Act -> World -> Prop} (hgd : o.guard = none) (s x : Operand) (t : TypeId)
  (ho : o.op = .call { callee := .builtin .append, args := #[s, x], argTypes := #[t, t] })
  (base : Nat) (e : TypeId) (i : TypeInfo) (z : Value) (size bytes : Nat) (ht : P.underlying t = some (.slice e)) (hi : P.info? e = some i) (hz : i.zero = some z)
  (hsize : i.size = size) (hby : i.bytes = bytes) (hzs : z.cells.size = size) (hsz : 0 < size)
  (v : Value) (n : Nat) (xs : List Value) (hs : a.eval s = v) (hown : w.ownsRow base e size v n xs)
  (ad : Addr) (m c : Nat) (news : List Value) (hx : a.eval x = .slice (some ad) m c) (hl : news.length = m * size) (hnews : ∀ j u, news[j]? = some u -> w.cell? (ad.add j) = some u) (h1 : ∀ u ∈ news, u.oneCell' = true)
  (h63 : n + m <= maxLen) (hbytes : (n + m) * bytes <= 140737488355328) (hbase : base <= w.heap.size)
  (h : ∀ v' w', w'.ownsRow base e size v' (n + m) (xs ++ news) -> w.grownBy w' v.ownBlock -> (v'.ownBlock = v.ownBlock ∨ ∃ g, v'.ownBlock = some g /\ w.heap.size <= g) -> wpList P ops Q rest (a.put o.dst v') w') : wpList P ops Q (o :: rest) a w :=
 wpList_plain hgd fun _ hK => A.zcu w s x t ho base e i z size bytes ht hi hz hsize hby hzs hsz v n xs hs hown ad m c news hx hl hnews h1 h63 hbytes hbase fun v' w' h2 h3 h4 => hK _ _ (h v' w' h2 h3 h4)
theorem one3 (x y : ByteArray) (n : Int) : ∀ u ∈ [Value.string x, .string y, .int .i64 n], u.oneCell' = true := fun u hu => by
 simp only [List.mem_cons, List.mem_nil_iff, or_false] at hu
 rcases hu with rfl | rfl | rfl <;> rfl
theorem zee {W W' : World} {b sz n : Nat} {e : TypeId} {v : Value} {xs : List Value} (h : W.ownsRow b e sz v n xs) (hk : ∀ g, v.ownBlock = some g -> b <= g -> g < W.heap.size -> W'.heap[g]? = W.heap[g]?) : W'.ownsRow b e sz v n xs := by
 have hl := h.lt
 refine ⟨h.1, ?_⟩
 rcases h.2 with h0 | ⟨g, cap, cur, e1, e2, e3, e4⟩
 ·exact .inl h0
 ·have hg : v.ownBlock = some g := by rw [e1]; rfl
  exact .inr ⟨g, cap, cur, e1, e2, (hk g hg e2 (hl g hg).2).trans e3, e4⟩
def TrV (Av : Nat -> Prop) (b0 : Nat) (W : World) (v : Value) (t : List Nd) : Prop := ∃ ps, ps.map Prod.fst = t /\ OwnN b0 W v ps /\ (∀ g, v.ownBlock = some g -> ¬ Av g) /\ ∀ x ∈ ps, ∀ g, x.2.ownBlock = some g -> ¬ Av g
section
variable {Av Av' : Nat -> Prop} {b0 n0 : Nat} {W W' : World} {v : Value} {t : List Nd}
theorem TrV.move (h : TrV Av b0 W v t) (hk : ∀ g, ¬ Av g -> b0 <= g -> g < W.heap.size -> W'.heap[g]? = W.heap[g]? /\ ¬ Av' g) : TrV Av' b0 W' v t := by
 obtain ⟨ps, h1, h2, h3, h4⟩ := h
 have hl : ∀ x ∈ ps, ∀ g, x.2.ownBlock = some g -> b0 <= g /\ g < W.heap.size := fun x hx g e => World.ownsRow.lt (h2.2 x hx) g e
 exact ⟨ps, h1, ⟨zee h2.1 fun g e hb hl => (hk g (h3 g e) hb hl).1, fun x hx => zee (h2.2 x hx) fun g e hb hl => (hk g (h4 x hx g e) hb hl).1⟩,
  fun g e => (hk g (h3 g e) (h2.1.lt g e).1 (h2.1.lt g e).2).2, fun x hx g e => (hk g (h4 x hx g e) (hl x hx g e).1 (hl x hx g e).2).2⟩
theorem TrV.tr (h : TrV Av b0 W v t) : Tr b0 W v t := by
 obtain ⟨ps, h1, h2, _⟩ := h
 exact ⟨ps, h1, h2⟩
theorem TrV.born (h : Tr n0 W v t) (ha : ∀ g, Av g -> g < n0) (hb : b0 <= n0) : TrV Av b0 W v t := by
 obtain ⟨ps, h1, h2⟩ := h
 have hl : ∀ x ∈ ps, ∀ g, x.2.ownBlock = some g -> n0 <= g /\ g < W.heap.size := fun x hx g e => World.ownsRow.lt (h2.2 x hx) g e
 exact ⟨ps, h1, ⟨zbi h2.1 hb, fun x hx => zbi (h2.2 x hx) hb⟩, fun g e a => by have := (h2.1.lt g e).1; have := ha g a; omega, fun x hx g e a => by have := (hl x hx g e).1; have := ha g a; omega⟩
end
def AvN (kN : Nat) (v u : Value) (g : Nat) : Prop := g = kN ∨ v.ownBlock = some g ∨ u.ownBlock = some g
structure Rc (B pb rb : Nat) (w W : World) (x : RS) (kN : Nat) (kd p : Int) (v : Value) (fs : List Fld) (u : Value) (m : Nat) (vals : List Value) (ts : List (List Nd)) : Prop where
 st : Qs B pb rb W x
 fr : Fr (SS pb rb) w W
 r2 : W.heap[w.heap.size]? = some (.cells #[.slice none 0 0] 25 (0, 0))
 B1 : B <= w.heap.size
 hk : w.heap.size < kN
 ln : W.heap[kN]? = some (.cells #[.int .i64 kd, .int .i64 0, .int .i64 0, .int .i64 0, .int .i64 0, .string ⟨#[]⟩, .string ⟨#[]⟩, v, .int .i64 p] 37 (0, 0))
 of : OwnF (w.heap.size + 1) W v fs
 ks : W.ownsRow (w.heap.size + 1) 25 1 u m vals
 nv : v.ownBlock ≠ some kN
 nu : u.ownBlock ≠ some kN
 len : vals.length = ts.length
 tr : ∀ (j : Nat) (e : List Nd), ts[j]? = some e -> ∃ A c, vals[j]? = some (Value.slice A e.length c) /\ TrV (AvN kN v u) (w.heap.size + 1) W (.slice A e.length c) e
section
variable {B pb rb : Nat} {w W W' W0 W8 : World} {x x' x0 : RS} {kN m : Nat} {kd p : Int} {v u v2 u2 : Value} {fs : List Fld} {vals : List Value} {ts : List (List Nd)}
theorem Rc.num (h : Rc B pb rb w W x kN kd p v fs u m vals ts) : m = ts.length := by
 have := h.ks.1
 have := h.len
 omega
theorem Rc.lt (h : Rc B pb rb w W x kN kd p v fs u m vals ts) : kN < W.heap.size := (age.1 h.ln).1
theorem Rc.next (h : Rc B pb rb w W x kN kd p v fs u m vals ts) (hq : Qs B pb rb W' x') (hf : Fr (SS pb rb) W W') : Rc B pb rb w W' x' kN kd p v fs u m vals ts := by
 have hB := h.B1
 have hkN := h.hk
 have hl := h.lt
 have key : ∀ g, w.heap.size <= g -> g < W.heap.size -> W'.heap[g]? = W.heap[g]? := fun g h1 h2 => hf.block g h2 fun hh => by have := ssB h.st hh; omega
 refine ⟨hq, h.fr.trans hf, (key _ (lrf _) (by omega)).trans h.r2, hB, hkN, (key _ (by omega) hl).trans h.ln, zee h.of fun g _ h1 h2 => key g (by omega) h2, zee h.ks fun g _ h1 h2 => key g (by omega) h2, h.nv, h.nu, h.len, fun j e hj => ?_⟩
 obtain ⟨A, c, a1, a2⟩ := h.tr j e hj
 exact ⟨A, c, a1, a2.move fun g hg h1 h2 => ⟨key g (by omega) h2, hg⟩⟩
theorem Rc.below (h : Rc B pb rb w W x kN kd p v fs u m vals ts) (hb : Below W.heap.size W W') : Rc B pb rb w W' x kN kd p v fs u m vals ts := h.next (h.st.below hb) (zba hb)
theorem zps {α : Type} {l : List α} {a e : α} {j : Nat} (h : (l ++ [a])[j]? = some e) : l[j]? = some e ∨ (j = l.length /\ e = a) := by
 by_cases hj : j < l.length
 ·rw [List.getElem?_append_left hj] at h; exact .inl h
 ·rw [List.getElem?_append_right (by omega)] at h
  have : j - l.length = 0 := by
   have := (lge.1 h).1
   simp at this; omega
  rw [this] at h
  simp at h
  exact .inr ⟨by omega, h.symm⟩
theorem Rc.kid (h0 : Rc B pb rb w W0 x0 kN kd p v fs u m vals ts) (h : Rc B pb rb w W x kN kd p v fs u m vals ts) {A : Option Addr} {c : Nat} {t : List Nd} (ht : Tr W0.heap.size W (.slice A t.length c) t) {o : Obj}
  (h7 : W8.ownsRow (w.heap.size + 1) 25 1 u2 (m + 1) (vals ++ [.slice A t.length c])) (hg : (W.alloc o).grownBy W8 u.ownBlock) (hp : u2.ownBlock = u.ownBlock ∨ ∃ g, u2.ownBlock = some g /\ (W.alloc o).heap.size <= g) :
  Rc B pb rb w W8 x kN kd p v fs u2 (m + 1) (vals ++ [.slice A t.length c]) (ts ++ [t]) := by
 have hB := h.B1
 have hkN := h.hk
 have hl := h.lt
 have hl0 := h0.lt
 have hba : Below W.heap.size W (W.alloc o) := baw W o
 have hsz : W.heap.size <= W8.heap.size := ltr hba.size hg.size
 have key : ∀ g, g < W.heap.size -> u.ownBlock ≠ some g -> W8.heap[g]? = W.heap[g]? := fun g h1 h2 => (hg.block g (by simp; omega) fun e => h2 e.symm).trans (hba.block g h1)
 have hu : ∀ g, u.ownBlock = some g -> w.heap.size + 1 <= g := fun g e => (h.ks.lt g e).1
 have hvu := zef h.of h.ks (by decide)
 have hv0 : ∀ g, v.ownBlock = some g -> g < W0.heap.size := fun g e => (World.ownsRow.lt h0.of g e).2
 have hu0 : ∀ g, u.ownBlock = some g -> g < W0.heap.size := fun g e => (h0.ks.lt g e).2
 have hu2 : ∀ g, g < W.heap.size -> u2.ownBlock = some g -> u.ownBlock = some g := fun g h1 h2 => by
  rcases hp with e | ⟨g', e, hg'⟩
  ·rw [<- e]; exact h2
  ·rw [h2] at e
   cases e
   have := hba.size
   omega
 have mv : ∀ g, ¬ AvN kN v u g -> w.heap.size + 1 <= g -> g < W.heap.size -> W8.heap[g]? = W.heap[g]? /\ ¬ AvN kN v u2 g := fun g ha _ h2 => ⟨key g h2 fun e => ha (.inr (.inr e)), fun hh => by
  rcases hh with e | e | e
  ·exact ha (.inl e)
  ·exact ha (.inr (.inl e))
  ·exact ha (.inr (.inr (hu2 g h2 e)))⟩
 refine ⟨h.st.heap hsz fun k hk => key k (by omega) fun e => by have := hu k e; omega, ⟨(hg.os.trans hba.os).trans h.fr.os, (hg.tape.trans hba.tape).trans h.fr.tape, (hg.output.trans hba.output).trans h.fr.output, ltr h.fr.size hsz, fun k hk hh => (key k (lltl hk h.fr.size) fun e => by have := hu k e; omega).trans (h.fr.block k hk hh)⟩,
  (key _ (by omega) fun e => by have := hu _ e; omega).trans h.r2, hB, hkN, (key _ hl h.nu).trans h.ln, zee h.of fun g e h1 h2 => key g h2 fun e' => ?_, h7, h.nv, fun e => h.nu (hu2 kN hl e), by simp [h.len], fun j e hj => ?_⟩
 ·rcases hvu with e0 | e0
  ·rw [e0] at e; cases e
  ·exact e0 (e.trans e'.symm)
 ·rcases zps hj with h1 | ⟨rfl, rfl⟩
  ·obtain ⟨A', c', a1, a2⟩ := h.tr j e h1
   exact ⟨A', c', by rw [List.getElem?_append_left (lge.1 a1).1]; exact a1, a2.move mv⟩
  ·refine ⟨A, c, by rw [<- h.len, List.getElem?_append_right (lrf _)]; simp, (TrV.born (Av := AvN kN v u) (b0 := w.heap.size + 1) ht (fun g ha => ?_) (by omega)).move mv⟩
   rcases ha with e | e | e
   ·omega
   ·exact hv0 g e
   ·exact hu0 g e
theorem Rc.push (h : Rc B pb rb w W x kN kd p v fs u m vals ts) {f : Fld} {o : Obj}
  (h7 : W8.ownsRow (w.heap.size + 1) 97 3 v2 (fs.length + 1) (fCells fs ++ [.string f.nm, .string f.vr, .int .i64 f.pl])) (hg : (W.alloc o).grownBy W8 v.ownBlock) (hp : v2.ownBlock = v.ownBlock ∨ ∃ g, v2.ownBlock = some g /\ (W.alloc o).heap.size <= g) :
  W8.heap[kN]? = some (.cells #[.int .i64 kd, .int .i64 0, .int .i64 0, .int .i64 0, .int .i64 0, .string ⟨#[]⟩, .string ⟨#[]⟩, v, .int .i64 p] 37 (0, 0)) /\ Rc B pb rb w (W8.setCell ⟨kN, 7, none⟩ v2) x kN kd p v2 (fs ++ [f]) u m vals ts := by
 have hB := h.B1
 have hkN := h.hk
 have hl := h.lt
 have hba : Below W.heap.size W (W.alloc o) := baw W o
 have hsz : W.heap.size <= W8.heap.size := ltr hba.size hg.size
 have key : ∀ g, g < W.heap.size -> v.ownBlock ≠ some g -> W8.heap[g]? = W.heap[g]? := fun g h1 h2 => (hg.block g (by simp; omega) fun e => h2 e.symm).trans (hba.block g h1)
 have hv : ∀ g, v.ownBlock = some g -> w.heap.size + 1 <= g := fun g e => (World.ownsRow.lt h.of g e).1
 have huv := zef h.ks h.of (by decide)
 have hv2 : ∀ g, g < W.heap.size -> v2.ownBlock = some g -> v.ownBlock = some g := fun g h1 h2 => by
  rcases hp with e | ⟨g', e, hg'⟩
  ·rw [<- e]; exact h2
  ·rw [h2] at e
   cases e
   have := hba.size
   omega
 have nv2 : v2.ownBlock ≠ some kN := fun e => h.nv (hv2 kN hl e)
 have set_ : ∀ g, g ≠ kN -> (W8.setCell ⟨kN, 7, none⟩ v2).heap[g]? = W8.heap[g]? := fun g hne => zaf _ _ _ _ _ hne
 have l8 := (key _ hl h.nv).trans h.ln
 have q8 : Qs B pb rb W8 x := h.st.heap hsz fun k hk => key k (by omega) fun e => by have := hv k e; omega
 have f8 : Fr (SS pb rb) w W8 := ⟨(hg.os.trans hba.os).trans h.fr.os, (hg.tape.trans hba.tape).trans h.fr.tape, (hg.output.trans hba.output).trans h.fr.output, ltr h.fr.size hsz, fun k hk hh => (key k (lltl hk h.fr.size) fun e => by have := hv k e; omega).trans (h.fr.block k hk hh)⟩
 have hf8 : OwnF (w.heap.size + 1) W8 v2 (fs ++ [f]) := by
  unfold OwnF
  rw [List.length_append]
  have : fCells (fs ++ [f]) = fCells fs ++ [.string f.nm, .string f.vr, .int .i64 f.pl] := by simp [fCells]
  rw [this]
  exact h7
 refine ⟨l8, q8.far (by omega) _, f8.set _ (.inr (by omega)), (set_ _ (by omega)).trans ((key _ (by omega) fun e => by have := hv _ e; omega).trans h.r2), hB, hkN, (zaq l8).trans rfl, zee hf8 fun g e _ _ => set_ g fun e' => nv2 (e'.symm ▸ e), zee h.ks fun g e h1 h2 => (set_ g fun e' => h.nu (e'.symm ▸ e)).trans (key g h2 fun e' => ?_), nv2, h.nu, h.len, fun j e hj => ?_⟩
 ·rcases huv with e0 | e0
  ·rw [e0] at e; cases e
  ·exact e0 (e.trans e'.symm)
 ·obtain ⟨A, c, a1, a2⟩ := h.tr j e hj
  refine ⟨A, c, a1, a2.move fun g ha _ h2 => ⟨(set_ g fun e => ha (.inl e)).trans (key g h2 fun e => ha (.inr (.inl e))), fun hh => ?_⟩⟩
  rcases hh with e | e | e
  ·exact ha (.inl e)
  ·exact ha (.inr (.inl (hv2 g h2 e)))
  ·exact ha (.inr (.inr e))
theorem Rc.facts (h : Rc B pb rb w W x kN kd p v fs u m vals ts) : W.cell? ⟨kN, 0, none⟩ = some (.int .i64 kd) /\ W.cell? ⟨kN, 1, none⟩ = some (.int .i64 0) /\ W.cell? ⟨kN, 2, none⟩ = some (.int .i64 0) /\ W.cell? ⟨kN, 3, none⟩ = some (.int .i64 0) /\ W.cell? ⟨kN, 4, none⟩ = some (.int .i64 0) /\ W.cell? ⟨kN, 5, none⟩ = some (.string ⟨#[]⟩) /\ W.cell? ⟨kN, 6, none⟩ = some (.string ⟨#[]⟩) /\ W.cell? ⟨kN, 7, none⟩ = some v /\ W.cell? ⟨kN, 8, none⟩ = some (.int .i64 p) :=
 ⟨zaa h.ln 0, zaa h.ln 1, zaa h.ln 2, zaa h.ln 3, zaa h.ln 4, zaa h.ln 5, zaa h.ln 6, zaa h.ln 7, zaa h.ln 8⟩
theorem Rc.cel (h : Rc B pb rb w W x kN kd p v fs u m vals ts) : Cel B pb rb w W x := ⟨h.st, h.fr, h.r2, h.B1⟩
theorem Rc.start (h : Qs B pb rb w x) (kd p : Int) : Rc B pb rb w (((w.alloc (.cells #[.slice none 0 0] 25)).alloc (.cells #[] 25)).alloc (.cells #[.int .i64 kd, .int .i64 0, .int .i64 0, .int .i64 0, .int .i64 0, .string ⟨#[]⟩, .string ⟨#[]⟩, .slice none 0 0, .int .i64 p] 37)) x (w.heap.size + 2) kd p (.slice none 0 0) [] (.slice (some ⟨w.heap.size + 1, 0, none⟩) 0 0) 0 [] [] := by
 have h1 := Cel.made h
 have b2 := (br (w.alloc (.cells #[.slice none 0 0] 25)).heap.size (w.alloc (.cells #[.slice none 0 0] 25))).alloc (lrf _) (.cells #[] 25)
 have b3 := (br ((w.alloc (.cells #[.slice none 0 0] 25)).alloc (.cells #[] 25)).heap.size ((w.alloc (.cells #[.slice none 0 0] 25)).alloc (.cells #[] 25))).alloc (lrf _) (.cells #[.int .i64 kd, .int .i64 0, .int .i64 0, .int .i64 0, .int .i64 0, .string ⟨#[]⟩, .string ⟨#[]⟩, .slice none 0 0, .int .i64 p] 37)
 have h3 := (h1.below b2).below b3
 have hr := World.ownsRow_made (base := w.heap.size + 1) (e := 25) (size := 1) (w.alloc (.cells #[.slice none 0 0] 25)) #[] 0 (by simp) (by decide) rfl
 have e1 : (w.alloc (.cells #[.slice none 0 0] 25)).heap.size = w.heap.size + 1 := by simp
 rw [e1] at hr
 refine ⟨h3.st, h3.fr, h3.r2, h3.B1, by omega, ?_, World.ownsRow_nil _ _ _ _, hr.alloc _, (fun e => by cases e), (fun e => by simp [Value.ownBlock] at e), rfl, fun j e hj => by simp at hj⟩
 have := anw ((w.alloc (.cells #[.slice none 0 0] 25)).alloc (.cells #[] 25)) (.cells #[.int .i64 kd, .int .i64 0, .int .i64 0, .int .i64 0, .int .i64 0, .string ⟨#[]⟩, .string ⟨#[]⟩, .slice none 0 0, .int .i64 p] 37)
 simpa using this
theorem Rc.start1 {V w1 : World} {A : Option Addr} {c : Nat} {t : List Nd} (h : Cel B pb rb w V x0) (t1 : Tr V.heap.size w1 (.slice A t.length c) t) (q1 : Qs B pb rb w1 x) (k1 : Fr (SS pb rb) V w1) (kd p : Int) : Rc B pb rb w ((w1.alloc (.cells #[.slice A t.length c] 25)).alloc (.cells #[.int .i64 kd, .int .i64 0, .int .i64 0, .int .i64 0, .int .i64 0, .string ⟨#[]⟩, .string ⟨#[]⟩, .slice none 0 0, .int .i64 p] 37)) x (w1.heap.size + 1) kd p (.slice none 0 0) [] (.slice (some ⟨w1.heap.size, 0, none⟩) 1 1) 1 [.slice A t.length c] [t] := by
 have h1 := h.next q1 k1
 have hl := h.lt
 have hs := k1.size
 have b2 := (br w1.heap.size w1).alloc (lrf _) (.cells #[.slice A t.length c] 25)
 have b3 := (br (w1.alloc (.cells #[.slice A t.length c] 25)).heap.size (w1.alloc (.cells #[.slice A t.length c] 25))).alloc (lrf _) (.cells #[.int .i64 kd, .int .i64 0, .int .i64 0, .int .i64 0, .int .i64 0, .string ⟨#[]⟩, .string ⟨#[]⟩, .slice none 0 0, .int .i64 p] 37)
 have h3 := (h1.below b2).below b3
 have hr := World.ownsRow_lit (base := w.heap.size + 1) (e := 25) (size := 1) w1 #[.slice A t.length c] 1 (by omega) (by decide) rfl
 refine ⟨h3.st, h3.fr, h3.r2, h3.B1, by omega, ?_, World.ownsRow_nil _ _ _ _, hr.alloc _, (fun e => by cases e), (fun e => by simp [Value.ownBlock] at e), rfl, fun j e hj => ?_⟩
 ·have := anw (w1.alloc (.cells #[.slice A t.length c] 25)) (.cells #[.int .i64 kd, .int .i64 0, .int .i64 0, .int .i64 0, .int .i64 0, .string ⟨#[]⟩, .string ⟨#[]⟩, .slice none 0 0, .int .i64 p] 37)
  simpa using this
 ·rcases zps (l := []) hj with h1 | ⟨rfl, rfl⟩
  ·simp at h1
  ·refine ⟨A, c, rfl, ?_⟩
   have h0 : TrV (fun _ => False) (w.heap.size + 1) w1 (.slice A e.length c) e := TrV.born t1 (fun g hg => hg.elim) (by omega)
   refine h0.move fun g _ _ h2 => ⟨(b3.block g (by simp; omega)).trans (b2.block g h2), fun hh => ?_⟩
   rcases hh with e | e | e
   ·omega
   ·cases e
   ·simp [Value.ownBlock] at e; omega
theorem Rc.join (h : Rc B pb rb w W x kN kd p v fs u m vals ts) {y : Nd} (hy : y.l = fs) {FA : Option Addr} {n fc g uc : Nat} (hv : v = .slice FA n fc) (hn : fs.length = n) (hu : u = .slice (some ⟨g, 0, none⟩) m uc) (hJ : JOk y ts) :
  Calls Tryz.prog 98 #[.agg (ndArr y (.slice FA n fc)), .slice (some ⟨g, 0, none⟩) m uc] W (NPost (joinN y ts) W) := by
 subst hv hu
 have hF := zcx h.of
 have hk := h.ks
 have hm := h.num
 subst hy
 subst hn
 exact zqi y ts FA (some ⟨g, 0, none⟩) fc uc m W hF hJ hm.symm fun _ => ⟨g, rfl, (hk.lt g rfl).2, fun j e hj => by
  obtain ⟨A, c, a1, a2⟩ := h.tr j e hj
  exact ⟨A, c, (hk.cellAt j (by have := (lge.1 hj).1; omega)).trans a1, a2.tr.nodes⟩⟩
end
open T Go.RowKit Go.Shelf
open A (Fr)
attribute [local go_sem] A.zat A.zau A.zas
section
variable {B pb rb : Nat} {w w' W : World} {s s' : RS}
theorem res201 (tmps : Array Value) (W : World) (p : Nat) (A : Option Addr) (n c : Nat) (h2 : tmps[2]?.getD undef = .pointer (some ⟨p, 0, none⟩)) (hb : W.cell? ⟨p, 0, none⟩ = some (.slice A n c)) :
  Sem.run Tryz.prog (results Tryz.f201 tmps) W = .ok (.agg #[.slice A n c]) W := by
 simp [results, Tryz.results201, go_sem, h2, hb]
def Rdp (B pb rb F : Nat) (X : Int -> RS -> Ans) : Prop := ∀ w s p t s', Qs B pb rb w s -> X p s = some (t, s') -> Calls Tryz.prog F #[.pointer (some ⟨pb, 0, none⟩), .int .i64 p] w (TP B pb rb w t s')
theorem ztg {X : RS -> Ans} {tf : List Nd} {sf : RS} (h : Qs B pb rb w s) (he : s.err ≠ 0) (ho : atomR X s = some (tf, sf)) : Calls Tryz.prog 201 #[.pointer (some ⟨pb, 0, none⟩)] w (TP B pb rb w tf sf) := by
 unfold atomR at ho
 rw [if_neg he] at ho
 cases ho
 have hz : (s.err != 0) = true := by simpa using he
 have hc := Cel.made h
 obtain ⟨c0, c1, c2, c3, cf⟩ := hc.st.pcells
 have HC := jj hc
 clear h he hc cf
 go_enter Tryz.func201, Tryz.ntmps201
 go_wp2_with (go_at_call 57; refine (zd3 _).mono ?_; rintro e w1 ⟨A1, c1, ps, rfl, p1, o1, b1⟩; have H1 := jj (HC.out.below b1); have r2 := zaa H1.out.r2 0; have f2 := zac H1.out.r2 0; have T1 := jj ((NPost.tr p1 o1).low (B := w.heap.size + 1) HC.out.lt); clear p1 o1 b1)
 exact bodyPost_ret (res201 _ _ w.heap.size A1 _ c1 rfl (by go_simp)) rfl ⟨A1, c1, rfl, H1.out.out T1.out⟩
theorem zwi {X : RS -> Ans} {tf : List Nd} {sf : RS} (h : Qs B pb rb w s) (he : s.err = 0) (g4 : s.pk.k = 4) (ho : atomR X s = some (tf, sf)) : Calls Tryz.prog 201 #[.pointer (some ⟨pb, 0, none⟩)] w (TP B pb rb w tf sf) := by
 unfold atomR at ho
 rw [if_pos he, if_pos g4] at ho
 have hz : (s.err != 0) = false := by simpa using he
 have hc := Cel.made h
 obtain ⟨c0, c1, c2, c3, cf⟩ := hc.st.pcells
 have HC := jj hc
 obtain ⟨t, ht⟩ : ∃ t, s.pk = t := ⟨_, rfl⟩
 have HT := jj ht
 obtain ⟨hJ, hT, rfl⟩ := zam ho
 rw [ht] at hJ hT
 have HJN : Hid (∀ W, Calls Tryz.prog 98 #[.agg #[.int .i64 1, .int .i64 0, .int .i64 0, .int .i64 0, .int .i64 t.n, .string ⟨#[]⟩, .string ⟨#[]⟩, .slice none 0 0, .int .i64 t.p], .slice none 0 0] W (NPost tf W)) := jj fun W => by rw [hT]; exact zfi rfl hJ W
 rw [ht] at g4
 have z4 : (t.k == 4) = true := by simpa using g4
 clear h he hc cf ho hJ hT ht g4
 go_enter Tryz.func201, Tryz.ntmps201
 go_wp2_with (first | (go_at_call 32; refine (za1 HC.out.st).mono ?_; rintro e w3 ⟨rfl, hb3⟩; rw [HT.out]; have H3 := jj ((HC.out.below hb3).below (baw w3 (.cells #[.int .i64 t.k, .string t.s, .int .i64 t.n, .int .i64 t.p] 63))); have G3 := jj (anw w3 (.cells #[.int .i64 t.k, .string t.s, .int .i64 t.n, .int .i64 t.p] 63)); have hz3 := ltr HC.out.fr.size hb3.size; have hBB := HC.out.B1; obtain ⟨d0, d1, d2, d3, df⟩ := H3.out.st.pcells; clear hb3 df) | (go_at_call 135; refine (zjk H3.out.st).mono ?_; rintro e w4 ⟨rfl, q4, k4⟩; have H4 := jj (H3.out.next q4 k4); have G4 := jj (zai k4 H3.out.st G3.out (by omega)); have p0 := zaa G4.out 0; have p1 := zaa G4.out 1; have p2 := zaa G4.out 2; have p3 := zaa G4.out 3; clear q4 k4) | (go_at_call 98; refine (HJN.out _).mono ?_; rintro e w1 ⟨A1, c1, ps, rfl, p1, o1, b1⟩; have H1 := jj (H4.out.below b1); have r2 := zaa H1.out.r2 0; have f2 := zac H1.out.r2 0; have T1 := jj ((NPost.tr p1 o1).low (B := w.heap.size + 1) H4.out.lt); clear p1 o1 b1))
 exact bodyPost_ret (res201 _ _ w.heap.size A1 _ c1 rfl (by go_simp)) rfl ⟨A1, c1, rfl, H1.out.out T1.out⟩
theorem zu6 {X : RS -> Ans} {tf : List Nd} {sf : RS} (h : Qs B pb rb w s) (he : s.err = 0) (g4 : s.pk.k ≠ 4) (g5 : s.pk.k = 5) (ho : atomR X s = some (tf, sf)) : Calls Tryz.prog 201 #[.pointer (some ⟨pb, 0, none⟩)] w (TP B pb rb w tf sf) := by
 unfold atomR at ho
 rw [if_pos he, if_neg g4, if_pos g5] at ho
 have hz : (s.err != 0) = false := by simpa using he
 have hc := Cel.made h
 obtain ⟨c0, c1, c2, c3, cf⟩ := hc.st.pcells
 have HC := jj hc
 obtain ⟨t, ht⟩ : ∃ t, s.pk = t := ⟨_, rfl⟩
 have HT := jj ht
 obtain ⟨hJ, hT, rfl⟩ := zam ho
 rw [ht] at hJ hT
 have HJN : Hid (∀ W, Calls Tryz.prog 98 #[.agg #[.int .i64 3, .int .i64 0, .int .i64 0, .int .i64 0, .int .i64 0, .string ⟨#[]⟩, .string t.s, .slice none 0 0, .int .i64 t.p], .slice none 0 0] W (NPost tf W)) := jj fun W => by rw [hT]; exact zfi rfl hJ W
 rw [ht] at g4 g5
 have z4 : (t.k == 4) = false := by simpa using g4
 have z5 : (t.k == 5) = true := by simpa using g5
 clear h he hc cf ho hJ hT ht g4 g5
 go_enter Tryz.func201, Tryz.ntmps201
 go_wp2_with (first | (go_at_call 32; refine (za1 HC.out.st).mono ?_; rintro e w3 ⟨rfl, hb3⟩; rw [HT.out]; have H3 := jj ((HC.out.below hb3).below (baw w3 (.cells #[.int .i64 t.k, .string t.s, .int .i64 t.n, .int .i64 t.p] 63))); have G3 := jj (anw w3 (.cells #[.int .i64 t.k, .string t.s, .int .i64 t.n, .int .i64 t.p] 63)); have hz3 := ltr HC.out.fr.size hb3.size; have hBB := HC.out.B1; obtain ⟨d0, d1, d2, d3, df⟩ := H3.out.st.pcells; clear hb3 df) | (go_at_call 135; refine (zjk H3.out.st).mono ?_; rintro e w4 ⟨rfl, q4, k4⟩; have H4 := jj (H3.out.next q4 k4); have G4 := jj (zai k4 H3.out.st G3.out (by omega)); have p0 := zaa G4.out 0; have p1 := zaa G4.out 1; have p2 := zaa G4.out 2; have p3 := zaa G4.out 3; clear q4 k4) | (go_at_call 98; refine (HJN.out _).mono ?_; rintro e w1 ⟨A1, c1, ps, rfl, p1, o1, b1⟩; have H1 := jj (H4.out.below b1); have r2 := zaa H1.out.r2 0; have f2 := zac H1.out.r2 0; have T1 := jj ((NPost.tr p1 o1).low (B := w.heap.size + 1) H4.out.lt); clear p1 o1 b1))
 exact bodyPost_ret (res201 _ _ w.heap.size A1 _ c1 rfl (by go_simp)) rfl ⟨A1, c1, rfl, H1.out.out T1.out⟩
theorem zvh {X : RS -> Ans} {tf : List Nd} {sf : RS} (h : Qs B pb rb w s) (he : s.err = 0) (g4 : s.pk.k ≠ 4) (g5 : s.pk.k ≠ 5) (g2 : s.pk.k = 2) (ho : atomR X s = some (tf, sf)) : Calls Tryz.prog 201 #[.pointer (some ⟨pb, 0, none⟩)] w (TP B pb rb w tf sf) := by
 unfold atomR at ho
 rw [if_pos he, if_neg g4, if_neg g5, if_pos g2] at ho
 have hz : (s.err != 0) = false := by simpa using he
 have hc := Cel.made h
 obtain ⟨c0, c1, c2, c3, cf⟩ := hc.st.pcells
 have HC := jj hc
 obtain ⟨t, ht⟩ : ∃ t, s.pk = t := ⟨_, rfl⟩
 have HT := jj ht
 obtain ⟨hJ, hT, rfl⟩ := zam ho
 rw [ht] at hJ hT
 have HJN : Hid (∀ W, Calls Tryz.prog 98 #[.agg #[.int .i64 4, .int .i64 0, .int .i64 0, .int .i64 0, .int .i64 0, .string t.s, .string ⟨#[]⟩, .slice none 0 0, .int .i64 t.p], .slice none 0 0] W (NPost tf W)) := jj fun W => by rw [hT]; exact zfi rfl hJ W
 rw [ht] at g4 g5 g2
 have z4 : (t.k == 4) = false := by simpa using g4
 have z5 : (t.k == 5) = false := by simpa using g5
 have z2 : (t.k == 2) = true := by simpa using g2
 clear h he hc cf ho hJ hT ht g4 g5 g2
 go_enter Tryz.func201, Tryz.ntmps201
 go_wp2_with (first | (go_at_call 32; refine (za1 HC.out.st).mono ?_; rintro e w3 ⟨rfl, hb3⟩; rw [HT.out]; have H3 := jj ((HC.out.below hb3).below (baw w3 (.cells #[.int .i64 t.k, .string t.s, .int .i64 t.n, .int .i64 t.p] 63))); have G3 := jj (anw w3 (.cells #[.int .i64 t.k, .string t.s, .int .i64 t.n, .int .i64 t.p] 63)); have hz3 := ltr HC.out.fr.size hb3.size; have hBB := HC.out.B1; obtain ⟨d0, d1, d2, d3, df⟩ := H3.out.st.pcells; clear hb3 df) | (go_at_call 135; refine (zjk H3.out.st).mono ?_; rintro e w4 ⟨rfl, q4, k4⟩; have H4 := jj (H3.out.next q4 k4); have G4 := jj (zai k4 H3.out.st G3.out (by omega)); have p0 := zaa G4.out 0; have p1 := zaa G4.out 1; have p2 := zaa G4.out 2; have p3 := zaa G4.out 3; clear q4 k4) | (go_at_call 98; refine (HJN.out _).mono ?_; rintro e w1 ⟨A1, c1, ps, rfl, p1, o1, b1⟩; have H1 := jj (H4.out.below b1); have r2 := zaa H1.out.r2 0; have f2 := zac H1.out.r2 0; have T1 := jj ((NPost.tr p1 o1).low (B := w.heap.size + 1) H4.out.lt); clear p1 o1 b1))
 exact bodyPost_ret (res201 _ _ w.heap.size A1 _ c1 rfl (by go_simp)) rfl ⟨A1, c1, rfl, H1.out.out T1.out⟩
theorem zo1 {X : RS -> Ans} {tf : List Nd} {sf : RS} (h : Qs B pb rb w s) (he : s.err = 0) (g4 : s.pk.k ≠ 4) (g5 : s.pk.k ≠ 5) (g2 : s.pk.k ≠ 2) (m0 : s.is 1 zar = true) (ho : atomR X s = some (tf, sf)) : Calls Tryz.prog 201 #[.pointer (some ⟨pb, 0, none⟩)] w (TP B pb rb w tf sf) := by
 unfold atomR at ho
 rw [if_pos he, if_neg g4, if_neg g5, if_neg g2, if_pos m0] at ho
 have hz : (s.err != 0) = false := by simpa using he
 have hc := Cel.made h
 obtain ⟨c0, c1, c2, c3, cf⟩ := hc.st.pcells
 have HC := jj hc
 obtain ⟨t, ht⟩ : ∃ t, s.pk = t := ⟨_, rfl⟩
 have HT := jj ht
 have HG0 : Hid (s.go 1 zar = s.nx /\ s.on 1 zar = true) := jj (by unfold RS.go RS.on; simp [he, m0])
 obtain ⟨hJ, hT, rfl⟩ := zam ho
 rw [ht] at hJ hT
 have HJN : Hid (∀ W, Calls Tryz.prog 98 #[.agg #[.int .i64 2, .int .i64 0, .int .i64 0, .int .i64 0, .int .i64 1, .string ⟨#[]⟩, .string ⟨#[]⟩, .slice none 0 0, .int .i64 t.p], .slice none 0 0] W (NPost tf W)) := jj fun W => by rw [hT]; exact zfi rfl hJ W
 rw [ht] at g4 g5 g2
 have z4 : (t.k == 4) = false := by simpa using g4
 have z5 : (t.k == 5) = false := by simpa using g5
 have z2 : (t.k == 2) = false := by simpa using g2
 clear h he hc cf ho hJ hT ht g4 g5 g2 m0
 go_enter Tryz.func201, Tryz.ntmps201
 go_wp2_with (first | (go_at_call 32; refine (za1 HC.out.st).mono ?_; rintro e w3 ⟨rfl, hb3⟩; rw [HT.out]; have H3 := jj ((HC.out.below hb3).below (baw w3 (.cells #[.int .i64 t.k, .string t.s, .int .i64 t.n, .int .i64 t.p] 63))); have G3 := jj (anw w3 (.cells #[.int .i64 t.k, .string t.s, .int .i64 t.n, .int .i64 t.p] 63)); have hz3 := ltr HC.out.fr.size hb3.size; have hBB := HC.out.B1; obtain ⟨d0, d1, d2, d3, df⟩ := H3.out.st.pcells; clear hb3 df) | (go_at_call 95; refine (za2 (l := zar) H3.out.st (zab #[116, 114, 117, 101])).mono ?_; rintro e w4 ⟨rfl, q4, k4⟩; rw [HG0.out.1] at q4; rw [HG0.out.2]; have H4 := jj (H3.out.next q4 k4); have G4 := jj (zai k4 H3.out.st G3.out (by omega)); have p0 := zaa G4.out 0; have p1 := zaa G4.out 1; have p2 := zaa G4.out 2; have p3 := zaa G4.out 3; clear q4 k4) | (go_at_call 98; refine (HJN.out _).mono ?_; rintro e w1 ⟨A1, c1, ps, rfl, p1, o1, b1⟩; have H1 := jj (H4.out.below b1); have r2 := zaa H1.out.r2 0; have f2 := zac H1.out.r2 0; have T1 := jj ((NPost.tr p1 o1).low (B := w.heap.size + 1) H4.out.lt); clear p1 o1 b1))
 exact bodyPost_ret (res201 _ _ w.heap.size A1 _ c1 rfl (by go_simp)) rfl ⟨A1, c1, rfl, H1.out.out T1.out⟩
theorem zms {X : RS -> Ans} {tf : List Nd} {sf : RS} (h : Qs B pb rb w s) (he : s.err = 0) (g4 : s.pk.k ≠ 4) (g5 : s.pk.k ≠ 5) (g2 : s.pk.k ≠ 2) (m0 : s.is 1 zar = false) (m1 : s.is 1 zan = true) (ho : atomR X s = some (tf, sf)) : Calls Tryz.prog 201 #[.pointer (some ⟨pb, 0, none⟩)] w (TP B pb rb w tf sf) := by
 unfold atomR at ho
 rw [if_pos he, if_neg g4, if_neg g5, if_neg g2, if_neg (by rw [m0]; decide), if_pos m1] at ho
 have hz : (s.err != 0) = false := by simpa using he
 have hc := Cel.made h
 obtain ⟨c0, c1, c2, c3, cf⟩ := hc.st.pcells
 have HC := jj hc
 obtain ⟨t, ht⟩ : ∃ t, s.pk = t := ⟨_, rfl⟩
 have HT := jj ht
 have HG0 : Hid (s.go 1 zar = s /\ s.on 1 zar = false) := jj (by unfold RS.go RS.on; simp [he, m0])
 have HG1 : Hid (s.go 1 zan = s.nx /\ s.on 1 zan = true) := jj (by unfold RS.go RS.on; simp [he, m1])
 obtain ⟨hJ, hT, rfl⟩ := zam ho
 rw [ht] at hJ hT
 have HJN : Hid (∀ W, Calls Tryz.prog 98 #[.agg #[.int .i64 2, .int .i64 0, .int .i64 0, .int .i64 0, .int .i64 0, .string ⟨#[]⟩, .string ⟨#[]⟩, .slice none 0 0, .int .i64 t.p], .slice none 0 0] W (NPost tf W)) := jj fun W => by rw [hT]; exact zfi rfl hJ W
 rw [ht] at g4 g5 g2
 have z4 : (t.k == 4) = false := by simpa using g4
 have z5 : (t.k == 5) = false := by simpa using g5
 have z2 : (t.k == 2) = false := by simpa using g2
 clear h he hc cf ho hJ hT ht g4 g5 g2 m0 m1
 go_enter Tryz.func201, Tryz.ntmps201
 go_wp2_with (first | (go_at_call 32; refine (za1 HC.out.st).mono ?_; rintro e w3 ⟨rfl, hb3⟩; rw [HT.out]; have H3 := jj ((HC.out.below hb3).below (baw w3 (.cells #[.int .i64 t.k, .string t.s, .int .i64 t.n, .int .i64 t.p] 63))); have G3 := jj (anw w3 (.cells #[.int .i64 t.k, .string t.s, .int .i64 t.n, .int .i64 t.p] 63)); have hz3 := ltr HC.out.fr.size hb3.size; have hBB := HC.out.B1; obtain ⟨d0, d1, d2, d3, df⟩ := H3.out.st.pcells; clear hb3 df) | (go_at_call 95; refine (za2 (l := zan) H4.out.st (zab #[102, 97, 108, 115, 101])).mono ?_; rintro e w5 ⟨rfl, q4, k4⟩; rw [HG1.out.1] at q4; rw [HG1.out.2]; have H5 := jj (H4.out.next q4 k4); have G5 := jj (zai k4 H4.out.st G4.out (by omega)); have p0 := zaa G5.out 0; have p1 := zaa G5.out 1; have p2 := zaa G5.out 2; have p3 := zaa G5.out 3; clear q4 k4) | (go_at_call 95; refine (za2 (l := zar) H3.out.st (zab #[116, 114, 117, 101])).mono ?_; rintro e w4 ⟨rfl, q4, k4⟩; rw [HG0.out.1] at q4; rw [HG0.out.2]; have H4 := jj (H3.out.next q4 k4); have G4 := jj (zai k4 H3.out.st G3.out (by omega)); have p0 := zaa G4.out 0; have p1 := zaa G4.out 1; have p2 := zaa G4.out 2; have p3 := zaa G4.out 3; clear q4 k4) | (go_at_call 98; refine (HJN.out _).mono ?_; rintro e w1 ⟨A1, c1, ps, rfl, p1, o1, b1⟩; have H1 := jj (H5.out.below b1); have r2 := zaa H1.out.r2 0; have f2 := zac H1.out.r2 0; have T1 := jj ((NPost.tr p1 o1).low (B := w.heap.size + 1) H5.out.lt); clear p1 o1 b1))
 exact bodyPost_ret (res201 _ _ w.heap.size A1 _ c1 rfl (by go_simp)) rfl ⟨A1, c1, rfl, H1.out.out T1.out⟩
theorem zr3 {X : RS -> Ans} (HX : Rdz B pb rb 30 X) {tf : List Nd} {sf : RS} (h : Qs B pb rb w s) (he : s.err = 0) (g4 : s.pk.k ≠ 4) (g5 : s.pk.k ≠ 5) (g2 : s.pk.k ≠ 2) (m0 : s.is 1 zar = false) (m1 : s.is 1 zan = false) (m2 : s.is 7 za3 = true) (ho : atomR X s = some (tf, sf)) : Calls Tryz.prog 201 #[.pointer (some ⟨pb, 0, none⟩)] w (TP B pb rb w tf sf) := by
 unfold atomR at ho
 rw [if_pos he, if_neg g4, if_neg g5, if_neg g2, if_neg (by rw [m0]; decide), if_neg (by rw [m1]; decide), if_pos m2] at ho
 have hz : (s.err != 0) = false := by simpa using he
 have hc := Cel.made h
 obtain ⟨c0, c1, c2, c3, cf⟩ := hc.st.pcells
 have HC := jj hc
 obtain ⟨t, ht⟩ : ∃ t, s.pk = t := ⟨_, rfl⟩
 have HT := jj ht
 have HG0 : Hid (s.go 1 zar = s /\ s.on 1 zar = false) := jj (by unfold RS.go RS.on; simp [he, m0])
 have HG1 : Hid (s.go 1 zan = s /\ s.on 1 zan = false) := jj (by unfold RS.go RS.on; simp [he, m1])
 have HG2 : Hid (s.go 7 za3 = s.nx /\ s.on 7 za3 = true) := jj (by unfold RS.go RS.on; simp [he, m2])
 obtain ⟨a, s1, e1, e2⟩ := bind_some ho
 cases e2
 have HXX : Hid (∀ W, Qs B pb rb W s.nx -> Calls Tryz.prog 30 #[.pointer (some ⟨pb, 0, none⟩)] W (TP B pb rb W a s1)) := jj fun W hW => HX W _ _ _ hW e1
 rw [ht] at g4 g5 g2
 have z4 : (t.k == 4) = false := by simpa using g4
 have z5 : (t.k == 5) = false := by simpa using g5
 have z2 : (t.k == 2) = false := by simpa using g2
 clear h he hc cf ho e1 HX ht g4 g5 g2 m0 m1 m2
 go_enter Tryz.func201, Tryz.ntmps201
 go_wp2_with (first | (go_at_call 32; refine (za1 HC.out.st).mono ?_; rintro e w3 ⟨rfl, hb3⟩; rw [HT.out]; have H3 := jj ((HC.out.below hb3).below (baw w3 (.cells #[.int .i64 t.k, .string t.s, .int .i64 t.n, .int .i64 t.p] 63))); have G3 := jj (anw w3 (.cells #[.int .i64 t.k, .string t.s, .int .i64 t.n, .int .i64 t.p] 63)); have hz3 := ltr HC.out.fr.size hb3.size; have hBB := HC.out.B1; obtain ⟨d0, d1, d2, d3, df⟩ := H3.out.st.pcells; clear hb3 df) | (go_at_call 100; refine (za8 (l := za3) H5.out.st (zab #[40])).mono ?_; rintro e w6 ⟨rfl, q4, k4⟩; rw [HG2.out.1] at q4; rw [HG2.out.2]; have H6 := jj (H5.out.next q4 k4); have G6 := jj (zai k4 H5.out.st G5.out (by omega)); have p0 := zaa G6.out 0; have p1 := zaa G6.out 1; have p2 := zaa G6.out 2; have p3 := zaa G6.out 3; clear q4 k4) | (go_at_call 95; refine (za2 (l := zan) H4.out.st (zab #[102, 97, 108, 115, 101])).mono ?_; rintro e w5 ⟨rfl, q4, k4⟩; rw [HG1.out.1] at q4; rw [HG1.out.2]; have H5 := jj (H4.out.next q4 k4); have G5 := jj (zai k4 H4.out.st G4.out (by omega)); have p0 := zaa G5.out 0; have p1 := zaa G5.out 1; have p2 := zaa G5.out 2; have p3 := zaa G5.out 3; clear q4 k4) | (go_at_call 95; refine (za2 (l := zar) H3.out.st (zab #[116, 114, 117, 101])).mono ?_; rintro e w4 ⟨rfl, q4, k4⟩; rw [HG0.out.1] at q4; rw [HG0.out.2]; have H4 := jj (H3.out.next q4 k4); have G4 := jj (zai k4 H3.out.st G3.out (by omega)); have p0 := zaa G4.out 0; have p1 := zaa G4.out 1; have p2 := zaa G4.out 2; have p3 := zaa G4.out 3; clear q4 k4) | (go_at_call 30; refine (HXX.out _ H6.out.st).mono ?_; rintro e w8 ⟨A8, c8, rfl, t8, q8, k8⟩; have H8 := jj (H6.out.held t8 q8 k8); clear t8 q8 k8) | (go_at_call 97; refine (zcb (l := zgf) H8.out.st (by decide) (by decide) (zab #[41])).mono ?_; rintro e w9 ⟨rfl, q9, k9⟩; have H9 := jj (H8.out.next q9 k9); obtain ⟨A9, c9, h9, _⟩ := H9.out.at_; have r9 := zaa h9 0; have r2 := zaa H9.out.r2 0; have f2 := zac H9.out.r2 0; have HC9 := jj h9; clear q9 k9 h9))
 exact bodyPost_ret (res201 _ _ w.heap.size A9 _ c9 rfl (by go_simp)) rfl ⟨A9, c9, rfl, H9.out.out HC9.out⟩
theorem zso {X : RS -> Ans} (HX : Rdp B pb rb 208 (recR X)) {tf : List Nd} {sf : RS} (h : Qs B pb rb w s) (he : s.err = 0) (g4 : s.pk.k ≠ 4) (g5 : s.pk.k ≠ 5) (g2 : s.pk.k ≠ 2) (m0 : s.is 1 zar = false) (m1 : s.is 1 zan = false) (m2 : s.is 7 za3 = false) (m3 : s.is 7 zbb = true) (ho : atomR X s = some (tf, sf)) : Calls Tryz.prog 201 #[.pointer (some ⟨pb, 0, none⟩)] w (TP B pb rb w tf sf) := by
 unfold atomR at ho
 rw [if_pos he, if_neg g4, if_neg g5, if_neg g2, if_neg (by rw [m0]; decide), if_neg (by rw [m1]; decide), if_neg (by rw [m2]; decide), if_pos m3] at ho
 have hz : (s.err != 0) = false := by simpa using he
 have hc := Cel.made h
 obtain ⟨c0, c1, c2, c3, cf⟩ := hc.st.pcells
 have HC := jj hc
 obtain ⟨t, ht⟩ : ∃ t, s.pk = t := ⟨_, rfl⟩
 have HT := jj ht
 have HG0 : Hid (s.go 1 zar = s /\ s.on 1 zar = false) := jj (by unfold RS.go RS.on; simp [he, m0])
 have HG1 : Hid (s.go 1 zan = s /\ s.on 1 zan = false) := jj (by unfold RS.go RS.on; simp [he, m1])
 have HG2 : Hid (s.go 7 za3 = s /\ s.on 7 za3 = false) := jj (by unfold RS.go RS.on; simp [he, m2])
 have HG3 : Hid (s.go 7 zbb = s.nx /\ s.on 7 zbb = true) := jj (by unfold RS.go RS.on; simp [he, m3])
 rw [ht] at ho
 have HXX : Hid (∀ W, Qs B pb rb W s.nx -> Calls Tryz.prog 208 #[.pointer (some ⟨pb, 0, none⟩), .int .i64 t.p] W (TP B pb rb W tf sf)) := jj fun W hW => HX W _ _ _ _ hW ho
 rw [ht] at g4 g5 g2
 have z4 : (t.k == 4) = false := by simpa using g4
 have z5 : (t.k == 5) = false := by simpa using g5
 have z2 : (t.k == 2) = false := by simpa using g2
 clear h he hc cf ho HX ht g4 g5 g2 m0 m1 m2 m3
 go_enter Tryz.func201, Tryz.ntmps201
 go_wp2_with (first | (go_at_call 32; refine (za1 HC.out.st).mono ?_; rintro e w3 ⟨rfl, hb3⟩; rw [HT.out]; have H3 := jj ((HC.out.below hb3).below (baw w3 (.cells #[.int .i64 t.k, .string t.s, .int .i64 t.n, .int .i64 t.p] 63))); have G3 := jj (anw w3 (.cells #[.int .i64 t.k, .string t.s, .int .i64 t.n, .int .i64 t.p] 63)); have hz3 := ltr HC.out.fr.size hb3.size; have hBB := HC.out.B1; obtain ⟨d0, d1, d2, d3, df⟩ := H3.out.st.pcells; clear hb3 df) | (go_at_call 100; refine (za8 (l := zbb) H6.out.st (zab #[123])).mono ?_; rintro e w7 ⟨rfl, q4, k4⟩; rw [HG3.out.1] at q4; rw [HG3.out.2]; have H7 := jj (H6.out.next q4 k4); have G7 := jj (zai k4 H6.out.st G6.out (by omega)); have p0 := zaa G7.out 0; have p1 := zaa G7.out 1; have p2 := zaa G7.out 2; have p3 := zaa G7.out 3; clear q4 k4) | (go_at_call 100; refine (za8 (l := za3) H5.out.st (zab #[40])).mono ?_; rintro e w6 ⟨rfl, q4, k4⟩; rw [HG2.out.1] at q4; rw [HG2.out.2]; have H6 := jj (H5.out.next q4 k4); have G6 := jj (zai k4 H5.out.st G5.out (by omega)); have p0 := zaa G6.out 0; have p1 := zaa G6.out 1; have p2 := zaa G6.out 2; have p3 := zaa G6.out 3; clear q4 k4) | (go_at_call 95; refine (za2 (l := zan) H4.out.st (zab #[102, 97, 108, 115, 101])).mono ?_; rintro e w5 ⟨rfl, q4, k4⟩; rw [HG1.out.1] at q4; rw [HG1.out.2]; have H5 := jj (H4.out.next q4 k4); have G5 := jj (zai k4 H4.out.st G4.out (by omega)); have p0 := zaa G5.out 0; have p1 := zaa G5.out 1; have p2 := zaa G5.out 2; have p3 := zaa G5.out 3; clear q4 k4) | (go_at_call 95; refine (za2 (l := zar) H3.out.st (zab #[116, 114, 117, 101])).mono ?_; rintro e w4 ⟨rfl, q4, k4⟩; rw [HG0.out.1] at q4; rw [HG0.out.2]; have H4 := jj (H3.out.next q4 k4); have G4 := jj (zai k4 H3.out.st G3.out (by omega)); have p0 := zaa G4.out 0; have p1 := zaa G4.out 1; have p2 := zaa G4.out 2; have p3 := zaa G4.out 3; clear q4 k4) | (go_at_call 208; refine (HXX.out _ H7.out.st).mono ?_; rintro e w1 ⟨A1, c1, rfl, t8, q8, k8⟩; have H1 := jj (H7.out.next q8 k8); have r2 := zaa H1.out.r2 0; have f2 := zac H1.out.r2 0; have T1 := jj (t8.low (B := w.heap.size + 1) H7.out.lt); clear t8 q8 k8))
 exact bodyPost_ret (res201 _ _ w.heap.size A1 _ c1 rfl (by go_simp)) rfl ⟨A1, c1, rfl, H1.out.out T1.out⟩
theorem zr9 {X : RS -> Ans} (HX : Rdp B pb rb 209 (casR X)) {tf : List Nd} {sf : RS} (h : Qs B pb rb w s) (he : s.err = 0) (g4 : s.pk.k ≠ 4) (g5 : s.pk.k ≠ 5) (g2 : s.pk.k ≠ 2) (m0 : s.is 1 zar = false) (m1 : s.is 1 zan = false) (m2 : s.is 7 za3 = false) (m3 : s.is 7 zbb = false) (m4 : s.is 1 zbk = true) (ho : atomR X s = some (tf, sf)) : Calls Tryz.prog 201 #[.pointer (some ⟨pb, 0, none⟩)] w (TP B pb rb w tf sf) := by
 unfold atomR at ho
 rw [if_pos he, if_neg g4, if_neg g5, if_neg g2, if_neg (by rw [m0]; decide), if_neg (by rw [m1]; decide), if_neg (by rw [m2]; decide), if_neg (by rw [m3]; decide), if_pos m4] at ho
 have hz : (s.err != 0) = false := by simpa using he
 have hc := Cel.made h
 obtain ⟨c0, c1, c2, c3, cf⟩ := hc.st.pcells
 have HC := jj hc
 obtain ⟨t, ht⟩ : ∃ t, s.pk = t := ⟨_, rfl⟩
 have HT := jj ht
 have HG0 : Hid (s.go 1 zar = s /\ s.on 1 zar = false) := jj (by unfold RS.go RS.on; simp [he, m0])
 have HG1 : Hid (s.go 1 zan = s /\ s.on 1 zan = false) := jj (by unfold RS.go RS.on; simp [he, m1])
 have HG2 : Hid (s.go 7 za3 = s /\ s.on 7 za3 = false) := jj (by unfold RS.go RS.on; simp [he, m2])
 have HG3 : Hid (s.go 7 zbb = s /\ s.on 7 zbb = false) := jj (by unfold RS.go RS.on; simp [he, m3])
 have HG4 : Hid (s.go 1 zbk = s.nx /\ s.on 1 zbk = true) := jj (by unfold RS.go RS.on; simp [he, m4])
 rw [ht] at ho
 have HXX : Hid (∀ W, Qs B pb rb W s.nx -> Calls Tryz.prog 209 #[.pointer (some ⟨pb, 0, none⟩), .int .i64 t.p] W (TP B pb rb W tf sf)) := jj fun W hW => HX W _ _ _ _ hW ho
 rw [ht] at g4 g5 g2
 have z4 : (t.k == 4) = false := by simpa using g4
 have z5 : (t.k == 5) = false := by simpa using g5
 have z2 : (t.k == 2) = false := by simpa using g2
 clear h he hc cf ho HX ht g4 g5 g2 m0 m1 m2 m3 m4
 go_enter Tryz.func201, Tryz.ntmps201
 go_wp2_with (first | (go_at_call 32; refine (za1 HC.out.st).mono ?_; rintro e w3 ⟨rfl, hb3⟩; rw [HT.out]; have H3 := jj ((HC.out.below hb3).below (baw w3 (.cells #[.int .i64 t.k, .string t.s, .int .i64 t.n, .int .i64 t.p] 63))); have G3 := jj (anw w3 (.cells #[.int .i64 t.k, .string t.s, .int .i64 t.n, .int .i64 t.p] 63)); have hz3 := ltr HC.out.fr.size hb3.size; have hBB := HC.out.B1; obtain ⟨d0, d1, d2, d3, df⟩ := H3.out.st.pcells; clear hb3 df) | (go_at_call 95; refine (za2 (l := zbk) H7.out.st (zab #[99, 97, 115, 101])).mono ?_; rintro e w8 ⟨rfl, q4, k4⟩; rw [HG4.out.1] at q4; rw [HG4.out.2]; have H8 := jj (H7.out.next q4 k4); have G8 := jj (zai k4 H7.out.st G7.out (by omega)); have p0 := zaa G8.out 0; have p1 := zaa G8.out 1; have p2 := zaa G8.out 2; have p3 := zaa G8.out 3; clear q4 k4) | (go_at_call 100; refine (za8 (l := zbb) H6.out.st (zab #[123])).mono ?_; rintro e w7 ⟨rfl, q4, k4⟩; rw [HG3.out.1] at q4; rw [HG3.out.2]; have H7 := jj (H6.out.next q4 k4); have G7 := jj (zai k4 H6.out.st G6.out (by omega)); have p0 := zaa G7.out 0; have p1 := zaa G7.out 1; have p2 := zaa G7.out 2; have p3 := zaa G7.out 3; clear q4 k4) | (go_at_call 100; refine (za8 (l := za3) H5.out.st (zab #[40])).mono ?_; rintro e w6 ⟨rfl, q4, k4⟩; rw [HG2.out.1] at q4; rw [HG2.out.2]; have H6 := jj (H5.out.next q4 k4); have G6 := jj (zai k4 H5.out.st G5.out (by omega)); have p0 := zaa G6.out 0; have p1 := zaa G6.out 1; have p2 := zaa G6.out 2; have p3 := zaa G6.out 3; clear q4 k4) | (go_at_call 95; refine (za2 (l := zan) H4.out.st (zab #[102, 97, 108, 115, 101])).mono ?_; rintro e w5 ⟨rfl, q4, k4⟩; rw [HG1.out.1] at q4; rw [HG1.out.2]; have H5 := jj (H4.out.next q4 k4); have G5 := jj (zai k4 H4.out.st G4.out (by omega)); have p0 := zaa G5.out 0; have p1 := zaa G5.out 1; have p2 := zaa G5.out 2; have p3 := zaa G5.out 3; clear q4 k4) | (go_at_call 95; refine (za2 (l := zar) H3.out.st (zab #[116, 114, 117, 101])).mono ?_; rintro e w4 ⟨rfl, q4, k4⟩; rw [HG0.out.1] at q4; rw [HG0.out.2]; have H4 := jj (H3.out.next q4 k4); have G4 := jj (zai k4 H3.out.st G3.out (by omega)); have p0 := zaa G4.out 0; have p1 := zaa G4.out 1; have p2 := zaa G4.out 2; have p3 := zaa G4.out 3; clear q4 k4) | (go_at_call 209; refine (HXX.out _ H8.out.st).mono ?_; rintro e w1 ⟨A1, c1, rfl, t8, q8, k8⟩; have H1 := jj (H8.out.next q8 k8); have r2 := zaa H1.out.r2 0; have f2 := zac H1.out.r2 0; have T1 := jj (t8.low (B := w.heap.size + 1) H8.out.lt); clear t8 q8 k8))
 exact bodyPost_ret (res201 _ _ w.heap.size A1 _ c1 rfl (by go_simp)) rfl ⟨A1, c1, rfl, H1.out.out T1.out⟩
theorem zrc {X : RS -> Ans} {tf : List Nd} {sf : RS} (h : Qs B pb rb w s) (he : s.err = 0) (g4 : s.pk.k ≠ 4) (g5 : s.pk.k ≠ 5) (g2 : s.pk.k ≠ 2) (m0 : s.is 1 zar = false) (m1 : s.is 1 zan = false) (m2 : s.is 7 za3 = false) (m3 : s.is 7 zbb = false) (m4 : s.is 1 zbk = false)  (ho : atomR X s = some (tf, sf)) : Calls Tryz.prog 201 #[.pointer (some ⟨pb, 0, none⟩)] w (TP B pb rb w tf sf) := by
 unfold atomR at ho
 rw [if_pos he, if_neg g4, if_neg g5, if_neg g2, if_neg (by rw [m0]; decide), if_neg (by rw [m1]; decide), if_neg (by rw [m2]; decide), if_neg (by rw [m3]; decide), if_neg (by rw [m4]; decide)] at ho
 have hz : (s.err != 0) = false := by simpa using he
 have hc := Cel.made h
 obtain ⟨c0, c1, c2, c3, cf⟩ := hc.st.pcells
 have HC := jj hc
 obtain ⟨t, ht⟩ : ∃ t, s.pk = t := ⟨_, rfl⟩
 have HT := jj ht
 have HG0 : Hid (s.go 1 zar = s /\ s.on 1 zar = false) := jj (by unfold RS.go RS.on; simp [he, m0])
 have HG1 : Hid (s.go 1 zan = s /\ s.on 1 zan = false) := jj (by unfold RS.go RS.on; simp [he, m1])
 have HG2 : Hid (s.go 7 za3 = s /\ s.on 7 za3 = false) := jj (by unfold RS.go RS.on; simp [he, m2])
 have HG3 : Hid (s.go 7 zbb = s /\ s.on 7 zbb = false) := jj (by unfold RS.go RS.on; simp [he, m3])
 have HG4 : Hid (s.go 1 zbk = s /\ s.on 1 zbk = false) := jj (by unfold RS.go RS.on; simp [he, m4])
 cases ho
 rw [ht]
 rw [ht] at g4 g5 g2
 have z4 : (t.k == 4) = false := by simpa using g4
 have z5 : (t.k == 5) = false := by simpa using g5
 have z2 : (t.k == 2) = false := by simpa using g2
 clear h he hc cf ht g4 g5 g2 m0 m1 m2 m3 m4
 go_enter Tryz.func201, Tryz.ntmps201
 go_wp2_with (first | (go_at_call 32; refine (za1 HC.out.st).mono ?_; rintro e w3 ⟨rfl, hb3⟩; rw [HT.out]; have H3 := jj ((HC.out.below hb3).below (baw w3 (.cells #[.int .i64 t.k, .string t.s, .int .i64 t.n, .int .i64 t.p] 63))); have G3 := jj (anw w3 (.cells #[.int .i64 t.k, .string t.s, .int .i64 t.n, .int .i64 t.p] 63)); have hz3 := ltr HC.out.fr.size hb3.size; have hBB := HC.out.B1; obtain ⟨d0, d1, d2, d3, df⟩ := H3.out.st.pcells; clear hb3 df) | (go_at_call 95; refine (za2 (l := zbk) H7.out.st (zab #[99, 97, 115, 101])).mono ?_; rintro e w8 ⟨rfl, q4, k4⟩; rw [HG4.out.1] at q4; rw [HG4.out.2]; have H8 := jj (H7.out.next q4 k4); have G8 := jj (zai k4 H7.out.st G7.out (by omega)); have p0 := zaa G8.out 0; have p1 := zaa G8.out 1; have p2 := zaa G8.out 2; have p3 := zaa G8.out 3; clear q4 k4) | (go_at_call 100; refine (za8 (l := zbb) H6.out.st (zab #[123])).mono ?_; rintro e w7 ⟨rfl, q4, k4⟩; rw [HG3.out.1] at q4; rw [HG3.out.2]; have H7 := jj (H6.out.next q4 k4); have G7 := jj (zai k4 H6.out.st G6.out (by omega)); have p0 := zaa G7.out 0; have p1 := zaa G7.out 1; have p2 := zaa G7.out 2; have p3 := zaa G7.out 3; clear q4 k4) | (go_at_call 100; refine (za8 (l := za3) H5.out.st (zab #[40])).mono ?_; rintro e w6 ⟨rfl, q4, k4⟩; rw [HG2.out.1] at q4; rw [HG2.out.2]; have H6 := jj (H5.out.next q4 k4); have G6 := jj (zai k4 H5.out.st G5.out (by omega)); have p0 := zaa G6.out 0; have p1 := zaa G6.out 1; have p2 := zaa G6.out 2; have p3 := zaa G6.out 3; clear q4 k4) | (go_at_call 95; refine (za2 (l := zan) H4.out.st (zab #[102, 97, 108, 115, 101])).mono ?_; rintro e w5 ⟨rfl, q4, k4⟩; rw [HG1.out.1] at q4; rw [HG1.out.2]; have H5 := jj (H4.out.next q4 k4); have G5 := jj (zai k4 H4.out.st G4.out (by omega)); have p0 := zaa G5.out 0; have p1 := zaa G5.out 1; have p2 := zaa G5.out 2; have p3 := zaa G5.out 3; clear q4 k4) | (go_at_call 95; refine (za2 (l := zar) H3.out.st (zab #[116, 114, 117, 101])).mono ?_; rintro e w4 ⟨rfl, q4, k4⟩; rw [HG0.out.1] at q4; rw [HG0.out.2]; have H4 := jj (H3.out.next q4 k4); have G4 := jj (zai k4 H3.out.st G3.out (by omega)); have p0 := zaa G4.out 0; have p1 := zaa G4.out 1; have p2 := zaa G4.out 2; have p3 := zaa G4.out 3; clear q4 k4) | (go_at_call 31; refine (zfn H8.out.st 5 t.p).mono ?_; rintro e w9 ⟨rfl, q9, k9⟩; have H9 := jj (H8.out.next q9 k9); clear q9 k9) | (go_at_call 57; refine (zd3 _).mono ?_; rintro e w1 ⟨A1, c1, ps, rfl, p1, o1, b1⟩; have H1 := jj (H9.out.below b1); have r2 := zaa H1.out.r2 0; have f2 := zac H1.out.r2 0; have T1 := jj ((NPost.tr p1 o1).low (B := w.heap.size + 1) H9.out.lt); clear p1 o1 b1))
 exact bodyPost_ret (res201 _ _ w.heap.size A1 _ c1 rfl (by go_simp)) rfl ⟨A1, c1, rfl, H1.out.out T1.out⟩
theorem z0n {X : RS -> Ans} (HX : Rdz B pb rb 30 X) (HR : Rdp B pb rb 208 (recR X)) (HC : Rdp B pb rb 209 (casR X)) : Rdz B pb rb 201 (atomR X) := by
 intro w s tf sf h ho
 by_cases he : s.err = 0
 ·by_cases g4 : s.pk.k = 4
  ·exact zwi h he g4 ho
  by_cases g5 : s.pk.k = 5
  ·exact zu6 h he g4 g5 ho
  by_cases g2 : s.pk.k = 2
  ·exact zvh h he g4 g5 g2 ho
  cases m0 : s.is 1 zar with
  | true => exact zo1 h he g4 g5 g2 m0 ho
  | false =>
  cases m1 : s.is 1 zan with
  | true => exact zms h he g4 g5 g2 m0 m1 ho
  | false =>
  cases m2 : s.is 7 za3 with
  | true => exact zr3 HX h he g4 g5 g2 m0 m1 m2 ho
  | false =>
  cases m3 : s.is 7 zbb with
  | true => exact zso HR h he g4 g5 g2 m0 m1 m2 m3 ho
  | false =>
  cases m4 : s.is 1 zbk with
  | true => exact zr9 HC h he g4 g5 g2 m0 m1 m2 m3 m4 ho
  | false => exact zrc h he g4 g5 g2 m0 m1 m2 m3 m4 ho
 ·exact ztg h he ho
end
open T Go.RowKit Go.Shelf
open A (Fr)
attribute [local go_sem] A.zat A.zau A.zas
section
variable {B pb rb : Nat} {w w' W : World} {s s' : RS}
theorem zpg {X : RS -> Ans} (HX : Rdz B pb rb 30 X) {p : Int} {tf : List Nd} {sf : RS} (h : Qs B pb rb w s) (m0 : s.on 1 zb5 = false) (m1 : s.on 1 zcf = true) (m2 : s.nx.on 1 zdw = false) (ho : bindK X p 7 s.nx = some (tf, sf)) : Calls Tryz.prog 58 #[.pointer (some ⟨pb, 0, none⟩), .int .i64 p] w (TP B pb rb w tf sf) := by
 unfold bindK at ho
 obtain ⟨a, s1, e1, e2⟩ := bind_some ho
 rw [if_neg (by decide)] at e2
 obtain ⟨b, s2, e3, e4⟩ := bind_some e2
 obtain ⟨hJ, hT, rfl⟩ := zam e4
 have HC := jj (Cel.made h)
 have HG0 := jj (ze3 m0)
 have HG1 := jj (zea m1)
 have HG2 := jj (ze3 m2)
 have HM0 := jj m0
 have HM1 := jj m1
 have HM2 := jj m2
 obtain ⟨nm, hnm⟩ : ∃ nm, (s.nx.off 2).1 = nm := ⟨_, rfl⟩
 rw [hnm] at hT hJ
 have HNM := jj hnm
 obtain ⟨t, ht⟩ : ∃ t, ((s.nx.off 2).2.must 7 zbg).pk = t := ⟨_, rfl⟩
 have HT := jj ht
 have HJN : Hid (∀ (W : World) (k : Nat) (A1 A2 : Option Addr) (c1 c2 : Nat), k = W.heap.size -> Nodes W.heap.size W (.slice A1 a.length c1) a -> Nodes W.heap.size W (.slice A2 b.length c2) b -> Calls Tryz.prog 98 #[.agg #[.int .i64 7, .int .i64 0, .int .i64 0, .int .i64 0, .int .i64 0, .string nm, .string ⟨#[]⟩, .slice none 0 0, .int .i64 p], .slice (some ⟨k, 0, none⟩) 2 2] (W.alloc (.cells #[.slice A1 a.length c1, .slice A2 b.length c2] 25)) (NPost tf (W.alloc (.cells #[.slice A1 a.length c1, .slice A2 b.length c2] 25)))) := jj fun W k A1 A2 c1 c2 hk h1 h2 => by rw [hT, hk]; exact zb2 rfl hJ h1 h2
 have X1 : Hid (∀ W, Qs B pb rb W ((s.nx.off 2).2.must 7 zbg) -> Calls Tryz.prog 30 #[.pointer (some ⟨pb, 0, none⟩)] W (TP B pb rb W a s1)) := jj fun W hW => HX W _ _ _ hW e1
 have X2 : Hid (∀ W, Qs B pb rb W (s1.must 1 w_in) -> Calls Tryz.prog 30 #[.pointer (some ⟨pb, 0, none⟩)] W (TP B pb rb W b sf)) := jj fun W hW => HX W _ _ _ hW e3
 clear h m0 m1 m2 ho e1 e2 e3 e4 hJ hT HX hnm ht
 go_enter Tryz.func58, Tryz.ntmps58
 go_wp2_with (first | (go_at_call 95; refine (za2 (l := zdw) H4.out.st (zab #[114, 101, 99])).mono ?_; rintro e w5 ⟨rfl, q4, k4⟩; rw [HG2.out] at q4; rw [HM2.out]; have H5 := jj (H4.out.next q4 k4); clear q4 k4) | (go_at_call 95; refine (za2 (l := zcf) H3.out.st (zab #[108, 101, 116])).mono ?_; rintro e w4 ⟨rfl, q4, k4⟩; rw [HG1.out] at q4; rw [HM1.out]; have H4 := jj (H3.out.next q4 k4); clear q4 k4) | (go_at_call 95; refine (za2 (l := zb5) HC.out.st (zab #[102, 117, 110])).mono ?_; rintro e w3 ⟨rfl, q4, k4⟩; rw [HG0.out] at q4; rw [HM0.out]; have H3 := jj (HC.out.next q4 k4); clear q4 k4) | (go_at_call 96; refine (zfs H5.out.st 2).mono ?_; rintro e w6 ⟨rfl, q4, k4⟩; rw [HNM.out]; have H6 := jj (H5.out.next q4 k4); clear q4 k4) | (go_at_call 97; refine (zcb (l := w_in) H9.out.st (by decide) (by decide) (zab #[105, 110])).mono ?_; rintro e w10 ⟨rfl, q4, k4⟩; have H10 := jj (H9.out.next q4 k4); have M10 := jj (M9.out.next H9.out k4); clear q4 k4) | (go_at_call 32; refine (za1 H7.out.st).mono ?_; rintro e w8 ⟨rfl, hb8⟩; rw [HT.out]; have H8 := jj (H7.out.below hb8); clear hb8) | (go_at_call 97; refine (zcb (l := zbg) H6.out.st (by decide) (by decide) (zab #[61])).mono ?_; rintro e w7 ⟨rfl, q4, k4⟩; have H7 := jj (H6.out.next q4 k4); obtain ⟨d0, _, _, _, _⟩ := H7.out.st.pcells; clear q4 k4) | (go_at_call 30; refine (X2.out _ H10.out.st).mono ?_; rintro e w11 ⟨A11, c11, rfl, t6, q4, k4⟩; have b0 : Below w11.heap.size w11 (w11.alloc (.cells #[.slice A11 b.length c11] 25)) := baw _ _; have H11 := jj ((H10.out.next q4 k4).below b0); have N11 := jj (Lc.made H10.out t6 k4); have M11 := jj ((M10.out.next H10.out k4).below b0); have z1 := zaa M11.out.at_ 0; have z2 := zaa N11.out.at_ 0; clear q4 k4 t6 b0) | (go_at_call 30; refine (X1.out _ H8.out.st).mono ?_; rintro e w9 ⟨A9, c9, rfl, t6, q4, k4⟩; have b0 : Below w9.heap.size w9 (w9.alloc (.cells #[.slice A9 a.length c9] 25)) := baw _ _; have H9 := jj ((H8.out.next q4 k4).below b0); have M9 := jj (Lc.made H8.out t6 k4); clear q4 k4 t6 b0) | (go_at_call 98; refine (HJN.out _ _ _ _ _ _ (by simp) M11.out.tr.nodes N11.out.tr.nodes).mono ?_; rintro e w12 ⟨A7, c7, ps7, rfl, p7, o7, b7⟩; have H12 := jj ((H11.out.below (baw _ _)).below b7); have r7 := zaa H12.out.r2 0; have f7 := zac H12.out.r2 0; have T7 := jj ((NPost.tr p7 o7).low (B := w.heap.size + 1) (by have := H11.out.lt; simp at this ⊢; omega)); clear p7 o7 b7))
 exact bodyPost_ret (res58 _ _ w.heap.size A7 _ c7 rfl (by go_simp)) rfl ⟨A7, c7, rfl, H12.out.out T7.out⟩
end
end Go.Proofs.YtjakeidbajkdcaaGreatDoor.B
