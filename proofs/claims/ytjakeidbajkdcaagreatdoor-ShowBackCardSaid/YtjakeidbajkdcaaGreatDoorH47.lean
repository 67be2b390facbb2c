/- Joined by program. -/
import Derived.Test.YtjakeidbajkdcaaGreatDoorH45
import Derived.Test.YtjakeidbajkdcaaGreatDoorH30
namespace Go.Proofs.YtjakeidbajkdcaaGreatDoor.Y
open T
def z (x : Nd) : Nd := { x with pos := 0 }
def Lk (M : Int) (t e : List Nd) : Prop := t.map z = e.map z /\ ∀ x ∈ t, 0 <= x.pos /\ x.pos <= M
theorem Lk.len {M : Int} {t e : List Nd} (h : Lk M t e) : t.length = e.length := by have := congrArg List.length h.1; simpa using this
def nv (f : Fld) : ByteArray × ByteArray := (f.nm, f.vr)
def shp (x y : Nd) : Prop := x.kind = y.kind /\ x.n = y.n /\ x.nm = y.nm /\ x.s = y.s /\ x.l.map nv = y.l.map nv
theorem relab_nv : ∀ (l m : List Fld) (ks : List Int), l.map nv = m.map nv -> relab l ks = relab m ks
  | [], [], _, _ => rfl
  | [], y :: m, ks, h => by simp at h
  | x :: l, [], ks, h => by simp at h
  | x :: l, y :: m, [], h => by simp [relab]
  | x :: l, y :: m, k :: ks, h => by
    simp only [List.map_cons, List.cons.injEq, nv, Prod.mk.injEq] at h
    have ih := relab_nv l m ks h.2
    obtain ⟨⟨h1, h2⟩, _⟩ := h
    have e : ({ x with pl := k } : Fld) = { y with pl := k } := by cases x; cases y; simp at h1 h2 ⊢; exact ⟨h1, h2⟩
    show { x with pl := k } :: relab l ks = { y with pl := k } :: relab m ks
    rw [ih, e]
theorem z_wk {x y : Nd} (h : shp x y) (ks : List Int) : z (wk x ks) = z (wk y ks) := by
  obtain ⟨h1, h2, h3, h4, h5⟩ := h
  have e : T.own x = T.own y := by
    unfold T.own kids0
    rw [h1]
    simp only [apply_ite List.length, List.length_cons, List.length_nil]
  have em : many x = many y := by unfold many; rw [h1]
  have er := relab_nv x.l y.l (ks.drop (T.own y)) h5
  unfold z wk
  rw [h1, h2, h3, h4, e, em, er]
theorem sh_z (f : Nat) (m : Nd) : z (sh f (z m)) = z (sh f m) := rfl
theorem map_sh {t e : List Nd} (h : t.map z = e.map z) (f : Nat) : (t.map (sh f)).map z = (e.map (sh f)).map z := by
  have a : ∀ l : List Nd, (l.map (sh f)).map z = (l.map z).map fun m => z (sh f m) := fun l => by
    rw [List.map_map, List.map_map]
    exact List.map_congr_left fun m _ => (sh_z f m).symm
  rw [a, a, h]
theorem jn_lk : ∀ (ts es : List (List Nd)) (p q : List Nd × List Int), ts.map (List.map z) = es.map (List.map z) -> p.1.map z = q.1.map z -> p.2 = q.2 -> (ts.foldl jstep p).1.map z = (es.foldl jstep q).1.map z /\ (ts.foldl jstep p).2 = (es.foldl jstep q).2
  | [], [], p, q, _, h1, h2 => ⟨h1, h2⟩
  | [], e :: es, p, q, h, _, _ => by simp at h
  | t :: ts, [], p, q, h, _, _ => by simp at h
  | t :: ts, e :: es, p, q, h, h1, h2 => by
    simp only [List.map_cons, List.cons.injEq] at h
    have hl : p.1.length = q.1.length := by simpa using congrArg List.length h1
    have hl2 : t.length = e.length := by simpa using congrArg List.length h.1
    refine jn_lk ts es (jstep p t) (jstep q e) h.2 ?_ ?_
    · simp only [jstep, List.map_append, h1, hl, map_sh h.1]
    · simp only [jstep, h2, hl, hl2]
theorem jn_pos {P : Int -> Prop} : ∀ (ts : List (List Nd)) (p : List Nd × List Int), (∀ x ∈ p.1, P x.pos) -> (∀ t ∈ ts, ∀ x ∈ t, P x.pos) -> ∀ x ∈ (ts.foldl jstep p).1, P x.pos
  | [], p, h, _ => h
  | t :: ts, p, h, h2 => jn_pos ts (jstep p t) (fun x hx => by
      simp only [jstep, List.mem_append, List.mem_map] at hx
      rcases hx with hx | ⟨m, hm, rfl⟩
      · exact h x hx
      · exact h2 t (by simp) m hm) fun t' ht => h2 t' (by simp [ht])
def Lks (M : Int) (ts es : List (List Nd)) : Prop := ts.map (List.map z) = es.map (List.map z) /\ ∀ t ∈ ts, ∀ x ∈ t, 0 <= x.pos /\ x.pos <= M
theorem Lks.nil {M : Int} : Lks M [] [] := ⟨rfl, fun t ht => by cases ht⟩
theorem Lks.cons {M : Int} {ts es : List (List Nd)} {t e : List Nd} (h1 : Lk M t e) (h : Lks M ts es) : Lks M (t :: ts) (e :: es) :=
  ⟨by simp only [List.map_cons, h.1, h1.1], fun t' ht => by
    rcases List.mem_cons.1 ht with rfl | ht
    · exact h1.2
    · exact h.2 t' ht⟩
theorem Lks.one {M : Int} {t e : List Nd} (h : Lk M t e) : Lks M [t] [e] := Lks.cons h Lks.nil
theorem join_lk {M : Int} {x y : Nd} {ts es : List (List Nd)} (hs : shp x y) (hp : 0 <= x.pos /\ x.pos <= M) (h : Lks M ts es) : Lk M (joinN x ts) (joinN y es) := by
  obtain ⟨h1, h2⟩ := jn_lk ts es ([], []) ([], []) h.1 rfl rfl
  refine ⟨?_, fun m hm => ?_⟩
  · unfold joinN
    rw [List.map_append, List.map_append]
    show (ts.foldl jstep ([], [])).1.map z ++ [z (wk x (ts.foldl jstep ([], [])).2)] = (es.foldl jstep ([], [])).1.map z ++ [z (wk y (es.foldl jstep ([], [])).2)]
    rw [h1, h2, z_wk hs]
  · unfold joinN at hm
    rcases List.mem_append.1 hm with hm | hm
    · exact jn_pos (P := fun p => 0 <= p /\ p <= M) ts ([], []) (fun x hx => by cases hx) h.2 m hm
    · obtain rfl := List.mem_singleton.1 hm; exact hp
theorem node_lk {M : Int} {l : List Nd} (hk : kidsOk l) {i : Nat} {x : Nd} (hx : l[i]? = some x) {y : Nd} {ts : List (List Nd)} (hs : shp y x) (hp : 0 <= y.pos /\ y.pos <= M) (h : Lks M ts ((kids x).map fun k => cp l k.toNat [])) : Lk M (joinN y ts) (cp l i []) := by
  rw [<- join_subs hk hx]
  exact join_lk hs hp h
theorem Lk.lastK {M : Int} {t e : List Nd} (h : Lk M t e) : lastK t = lastK e := by
  have e1 : ∀ l : List Nd, T.lastK l = T.lastK (l.map z) := fun l => by
    unfold T.lastK
    rw [List.getLast?_map]
    cases l.getLast? <;> rfl
  rw [e1 t, h.1, <- e1]
theorem Lk.lastP {M : Int} {t e : List Nd} (h : Lk M t e) (hM : 0 <= M) : 0 <= lastP t /\ lastP t <= M := by
  unfold T.lastP
  cases hl : t.getLast? with
  | none => exact ⟨Int.le_refl 0, hM⟩
  | some x => exact h.2 x (List.mem_of_getLast? hl)
open T
abbrev U := Int × ByteArray × Int
def sT (t : Tk) : U := (t.k, t.s, t.n)
def Ts (M : Int) (ts : List Tk) (us : List U) : Prop := ts.map sT = us /\ ∀ t ∈ ts, 0 <= t.p /\ t.p <= M
theorem Ts.app {M : Int} {ts : List Tk} {us vs : List U} (h : Ts M ts (us ++ vs)) : ∃ t1 t2, ts = t1 ++ t2 /\ Ts M t1 us /\ Ts M t2 vs := by
  obtain ⟨t1, t2, rfl, h1, h2⟩ := List.map_eq_append_iff.1 h.1
  exact ⟨t1, t2, rfl, ⟨h1, fun t ht => h.2 t (by simp [ht])⟩, ⟨h2, fun t ht => h.2 t (by simp [ht])⟩⟩
theorem Ts.cons {M : Int} {ts : List Tk} {u : U} {us : List U} (h : Ts M ts (u :: us)) : ∃ p t2, ts = ⟨u.1, u.2.1, u.2.2, p⟩ :: t2 /\ (0 <= p /\ p <= M) /\ Ts M t2 us := by
  obtain ⟨t, t2, rfl, h1, h2⟩ := List.map_eq_cons_iff.1 h.1
  refine ⟨t.p, t2, ?_, h.2 t (by simp), ⟨h2, fun t' ht => h.2 t' (by simp [ht])⟩⟩
  rw [<- h1]; rfl
theorem Ts.nil {M : Int} {ts : List Tk} (h : Ts M ts []) : ts = [] := List.map_eq_nil_iff.1 h.1
def fd (l : List Tk) : Prop := isT 7 s_dot l = false
def fb (l : List Tk) : Prop := fd l /\ begins l = false
def fp (l : List Tk) : Prop := fb l /\ opOf prodOps l = none
def fs (l : List Tk) : Prop := fp l /\ opOf sumOps l = none
def fe (l : List Tk) : Prop := fs l /\ opOf cmpOps l = none
def isK (k' : Int) (s : List UInt8) (k : Int) (b : List UInt8) : Bool := decide (k = k') && (b == s)
def begK (k : Int) (b : List UInt8) : Bool := decide (k = 4) || decide (k = 5) || decide (k = 2) || isK 1 w_true k b || isK 1 w_false k b || isK 1 w_case k b || isK 7 s_lpar k b || isK 7 s_lbra k b
def opK (ops : List (List UInt8 × Int)) (k : Int) (b : List UInt8) : Option Int := if k = 7 then (ops.find? fun o => b == o.1).map Prod.snd else none
theorem isT_k {k : Int} {s : List UInt8} {t : Tk} {l : List Tk} : isT k s (t :: l) = isK k s t.k t.s.data.toList := by simp only [isT, isK, ByteArray.toList_eq]
theorem isy {k : Int} {s : List UInt8} {t : Tk} {l : List Tk} (h : isK k s t.k t.s.data.toList = true) : isT k s (t :: l) = true := isT_k.trans h
theorem isn {k : Int} {s : List UInt8} {t : Tk} {l : List Tk} (h : isK k s t.k t.s.data.toList = false) : ¬ isT k s (t :: l) = true := by rw [isT_k, h]; decide
theorem beg_k {t : Tk} {l : List Tk} : begins (t :: l) = begK t.k t.s.data.toList := by simp only [begins, begK, kindT, isT_k]
theorem op_k {ops : List (List UInt8 × Int)} {t : Tk} {l : List Tk} : opOf ops (t :: l) = opK ops t.k t.s.data.toList := by simp only [opOf, opK, ByteArray.toList_eq]
def fsK (k : Int) (b : List UInt8) : Bool := !isK 7 s_dot k b && (!begK k b && ((opK prodOps k b).isNone && (opK sumOps k b).isNone))
def fpK (k : Int) (b : List UInt8) : Bool := !isK 7 s_dot k b && (!begK k b && (opK prodOps k b).isNone)
def fbK (k : Int) (b : List UInt8) : Bool := !isK 7 s_dot k b && !begK k b
theorem fb_of {t : Tk} {l : List Tk} (h : fbK t.k t.s.data.toList = true) : fb (t :: l) := by
  simp only [fbK, Bool.and_eq_true, Bool.not_eq_true'] at h
  exact ⟨isT_k.trans h.1, beg_k.trans h.2⟩
theorem fp_of {t : Tk} {l : List Tk} (h : fpK t.k t.s.data.toList = true) : fp (t :: l) := by
  simp only [fpK, Bool.and_eq_true, Bool.not_eq_true', Option.isNone_iff_eq_none] at h
  exact ⟨⟨isT_k.trans h.1, beg_k.trans h.2.1⟩, op_k.trans h.2.2⟩
theorem fs_of {t : Tk} {l : List Tk} (h : fsK t.k t.s.data.toList = true) : fs (t :: l) := by
  simp only [fsK, Bool.and_eq_true, Bool.not_eq_true', Option.isNone_iff_eq_none] at h
  exact ⟨⟨⟨isT_k.trans h.1, beg_k.trans h.2.1⟩, op_k.trans h.2.2.1⟩, op_k.trans h.2.2.2⟩
theorem fe_of {t : Tk} {l : List Tk} (h : (fsK t.k t.s.data.toList && (opK cmpOps t.k t.s.data.toList).isNone) = true) : fe (t :: l) := by
  simp only [Bool.and_eq_true, Option.isNone_iff_eq_none] at h
  exact ⟨fs_of h.1, op_k.trans h.2⟩
theorem go_y {a : List Nd} {l : List Tk} {f : List Nd -> List Tk -> Rs} : (Rs.ok a l).go f = f a l := rfl
theorem must_y {E k : Int} {s : List UInt8} {t : Tk} {l : List Tk} {f : List Tk -> Rs} (h : isK k s t.k t.s.data.toList = true) : T.must E k s (t :: l) f = f l := by unfold T.must; rw [if_pos (isy h)]; rfl
theorem text_y {E k : Int} {t : Tk} {l : List Tk} {f : ByteArray -> List Tk -> Rs} (h : t.k = k) : textT E k (t :: l) f = f t.s l := by simp only [textT, if_pos h]
theorem lab_y {E k : Int} {fs : List Fld} {t : Tk} {l : List Tk} {f : ByteArray -> List Tk -> Rs} (h : t.k = k) (h1 : ¬ 30 <= fs.length) (h2 : (fs.any fun y => y.nm.toList == t.s.toList) = false) : labelT E k fs (t :: l) f = f t.s l := by
  unfold labelT
  rw [text_y h, if_neg h1, if_neg (by rw [h2]; decide)]
section
variable (E M : Int)
def RA (d : Nat) (us : List U) (e : List Nd) : Prop := ∀ ts rest, Ts M ts us -> ∃ t, Lk M t e /\ Ev E .atom d (ts ++ rest) (.ok t rest)
def RP (d : Nat) (us : List U) (e : List Nd) : Prop := ∀ ts rest, Ts M ts us -> ∃ t, Lk M t e /\ ∀ r, Ev E (.postL t) d rest r -> Ev E .post d (ts ++ rest) r
def RB (d : Nat) (us : List U) (e : List Nd) : Prop := ∀ ts rest, Ts M ts us -> fd rest -> ∃ t, Lk M t e /\ ∀ r, Ev E (.appL t) d rest r -> Ev E .app d (ts ++ rest) r
def RC (d : Nat) (us : List U) (e : List Nd) : Prop := ∀ ts rest, Ts M ts us -> fb rest -> ∃ t, Lk M t e /\ Ev E .app d (ts ++ rest) (.ok t rest)
def RD (d : Nat) (us : List U) (e : List Nd) : Prop := ∀ ts rest, Ts M ts us -> fb rest -> ∃ t, Lk M t e /\ ∀ r, Ev E (.prodL t) d rest r -> Ev E .prod d (ts ++ rest) r
def RF (d : Nat) (us : List U) (e : List Nd) : Prop := ∀ ts rest, Ts M ts us -> fp rest -> ∃ t, Lk M t e /\ ∀ r, Ev E (.sumL t) d rest r -> Ev E .sum d (ts ++ rest) r
def RK (d : Nat) (us : List U) (e : List Nd) : Prop := ∀ ts rest, Ts M ts us -> fe rest -> ∃ t, Lk M t e /\ Ev E .cmp d (ts ++ rest) (.ok t rest)
def RE (d : Nat) (us : List U) (e : List Nd) : Prop := ∀ ts rest, Ts M ts us -> fe rest -> ∃ t, Lk M t e /\ Ev E .expr d (ts ++ rest) (.ok t rest)
end
def bgU (u : U) : Prop := u.1 = 4 ∨ u.1 = 5 ∨ u.1 = 2 ∨ (u.1 = 1 /\ (u.2.1.data.toList = w_true ∨ u.2.1.data.toList = w_false ∨ u.2.1.data.toList = w_case)) ∨ (u.1 = 7 /\ (u.2.1.data.toList = s_lpar ∨ u.2.1.data.toList = s_lbra))
def bg (us : List U) : Prop := ∃ u r, us = u :: r /\ bgU u
def hd (us : List U) : Prop := ∃ u r, us = u :: r /\ (bgU u ∨ u.1 = 3)
theorem bg_hd {us : List U} (h : bg us) : hd us := by obtain ⟨u, r, h1, h2⟩ := h; exact ⟨u, r, h1, .inl h2⟩
theorem bg_app {us vs : List U} (h : bg us) : bg (us ++ vs) := by obtain ⟨u, r, rfl, h2⟩ := h; exact ⟨u, r ++ vs, rfl, h2⟩
theorem hd_app {us vs : List U} (h : hd us) : hd (us ++ vs) := by obtain ⟨u, r, rfl, h2⟩ := h; exact ⟨u, r ++ vs, rfl, h2⟩
theorem bg_ts {M : Int} {ts rest : List Tk} {us : List U} (h : Ts M ts us) (hb : bg us) : begins (ts ++ rest) = true /\ kindT 3 (ts ++ rest) = false /\ fd (ts ++ rest) := by
  obtain ⟨u, r, rfl, h2⟩ := hb
  obtain ⟨p, t2, rfl, _, _⟩ := h.cons
  obtain ⟨k, s, n⟩ := u
  simp only [bgU] at h2
  simp only [List.cons_append, begins, kindT, isT, fd, ByteArray.toList_eq]
  rcases h2 with h | h | h | ⟨h, h'⟩ | ⟨h, h'⟩
  · subst h; simp
  · subst h; simp
  · subst h; simp
  · subst h; rcases h' with h' | h' | h' <;> simp [h']
  · subst h; rcases h' with h' | h' <;> simp [h', s_lpar, s_lbra, s_dot]
theorem hd_ts {M : Int} {ts rest : List Tk} {us : List U} (h : Ts M ts us) (hb : hd us) : isT 1 w_fun (ts ++ rest) = false /\ isT 1 w_let (ts ++ rest) = false /\ isT 1 w_if (ts ++ rest) = false := by
  obtain ⟨u, r, rfl, h2⟩ := hb
  obtain ⟨p, t2, rfl, _, _⟩ := h.cons
  obtain ⟨k, s, n⟩ := u
  simp only [bgU] at h2
  simp only [List.cons_append, isT, ByteArray.toList_eq]
  rcases h2 with (h | h | h | ⟨h, h'⟩ | ⟨h, h'⟩) | h
  · subst h; simp
  · subst h; simp
  · subst h; simp
  · subst h; rcases h' with h' | h' | h' <;> simp [h', w_true, w_false, w_case, w_fun, w_let, w_if]
  · subst h; simp
  · subst h; simp
section
variable {E M : Int} {us : List U} {e : List Nd}
theorem RA.p {d : Nat} (h : RA E M d us e) : RP E M d us e := fun ts rest hts => by
  obtain ⟨t, h1, h2⟩ := h ts rest hts
  exact ⟨t, h1, fun r hr => ev_post h2 hr⟩
theorem RP.b {d : Nat} (h : RP E M d us e) (hb : bg us) : RB E M d us e := fun ts rest hts hf => by
  obtain ⟨t, h1, h2⟩ := h ts rest hts
  exact ⟨t, h1, fun r hr => ev_app (bg_ts hts hb).2.1 (h2 _ (ev_post0 hf)) hr⟩
theorem RB.c {d : Nat} (h : RB E M d us e) : RC E M d us e := fun ts rest hts hf => by
  obtain ⟨t, h1, h2⟩ := h ts rest hts hf.1
  exact ⟨t, h1, h2 _ (ev_app0 hf.2)⟩
theorem RC.d {d : Nat} (h : RC E M d us e) : RD E M d us e := fun ts rest hts hf => by
  obtain ⟨t, h1, h2⟩ := h ts rest hts hf
  exact ⟨t, h1, fun r hr => ev_prod h2 hr⟩
theorem RD.f {d : Nat} (h : RD E M d us e) : RF E M d us e := fun ts rest hts hf => by
  obtain ⟨t, h1, h2⟩ := h ts rest hts hf.1
  exact ⟨t, h1, fun r hr => ev_sum (h2 _ (ev_prod0 hf.2)) hr⟩
theorem RF.k {d : Nat} (h : RF E M d us e) : RK E M d us e := fun ts rest hts hf => by
  obtain ⟨t, h1, h2⟩ := h ts rest hts hf.1.1
  exact ⟨t, h1, ev_cmp0 (h2 _ (ev_sum0 hf.1.2)) hf.2⟩
theorem RK.ex {d : Nat} (h : RK E M (d + 1) us e) (hd' : d < 100) (hb : hd us) : RE E M d us e := fun ts rest hts hf => by
  obtain ⟨t, h1, h2⟩ := h ts rest hts hf
  obtain ⟨k1, k2, k3⟩ := hd_ts (rest := rest) hts hb
  refine ⟨t, h1, ev1 h2 fun f e1 => ?_⟩
  simp only [G]
  rw [if_neg (by omega), if_neg (by rw [k1]; decide), if_neg (by rw [k2]; decide), if_neg (by rw [k3]; decide)]
  exact e1
def sg (b : UInt8) : U := (7, ⟨#[b]⟩, 0)
theorem RE.a {d : Nat} (h : RE E M d us e) : RA E M d (sg 40 :: us ++ [sg 41]) e := fun ts rest hts => by
  rw [List.cons_append] at hts
  obtain ⟨p, t1, rfl, _, hts⟩ := hts.cons
  obtain ⟨t1, t2, rfl, h1, h2⟩ := hts.app
  obtain ⟨q, t3, rfl, _, h3⟩ := h2.cons
  obtain rfl := h3.nil
  obtain ⟨t, k1, k2⟩ := h t1 (⟨7, ⟨#[41]⟩, 0, q⟩ :: rest) h1 (fe_of rfl)
  refine ⟨t, k1, ?_⟩
  have := ev_par (t := ⟨7, ⟨#[40]⟩, 0, p⟩) rfl ((ByteArray.toList_eq _).trans rfl) k2 (isy rfl)
  simpa [sg] using this
def bru (t least : Int) (us : List U) : List U := if t < least then sg 40 :: us ++ [sg 41] else us
structure Nk (E M t : Int) (us : List U) (e : List Nd) (h : Nat) : Prop where
  t0 : 0 <= t
  t7 : t <= 7
  b : 5 <= t -> bg us
  hd : 1 <= t -> hd us
  a : t = 7 -> ∀ d, d + h <= 101 -> RA E M d us e
  p : t = 6 -> ∀ d, d + h <= 101 -> RP E M d us e
  r : t = 5 -> ∀ d, d + h <= 101 -> RB E M d us e
  c : t = 4 -> ∀ d, d + h <= 101 -> RC E M d us e
  d : t = 3 -> ∀ d, d + h <= 101 -> RD E M d us e
  f : t = 2 -> ∀ d, d + h <= 101 -> RF E M d us e
  k : t = 1 -> ∀ d, d + h <= 101 -> RK E M d us e
  e : t = 0 -> ∀ d, d + h <= 100 -> RE E M d us e
variable {t : Int} {h : Nat}
theorem bg_bru (H : Nk E M t us e h) {m : Int} (hm : 5 <= m) : bg (bru t m us) := by
  unfold bru
  split
  · exact ⟨sg 40, _, rfl, .inr (.inr (.inr (.inr ⟨rfl, .inl rfl⟩)))⟩
  · exact H.b (by omega)
theorem hd_bru (H : Nk E M t us e h) {m : Int} (hm : 1 <= m) : hd (bru t m us) := by
  unfold bru
  split
  · exact bg_hd ⟨sg 40, _, rfl, .inr (.inr (.inr (.inr ⟨rfl, .inl rfl⟩)))⟩
  · exact H.hd (by omega)
end
open T
section
variable {E M : Int} {us : List U} {e : List Nd} {t : Int} {h : Nat}
theorem Nk.k1 (H : Nk E M t us e h) (h1 : 1 <= t) {d : Nat} (hd : d + h <= 101) : RK E M d us e := by
  have h7 := H.t7
  rcases (by omega : t = 1 ∨ t = 2 ∨ t = 3 ∨ t = 4 ∨ t = 5 ∨ t = 6 ∨ t = 7) with g | g | g | g | g | g | g
  · exact H.k g d hd
  · exact (H.f g d hd).k
  · exact (H.d g d hd).f.k
  · exact (H.c g d hd).d.f.k
  · exact (H.r g d hd).c.d.f.k
  · exact ((H.p g d hd).b (H.b (by omega))).c.d.f.k
  · exact ((H.a g d hd).p.b (H.b (by omega))).c.d.f.k
theorem Nk.ex (H : Nk E M t us e h) (hh : 1 <= h) {d : Nat} (hd : d + h <= 100) : RE E M d us e := by
  have h0 := H.t0
  rcases (by omega : t = 0 ∨ 1 <= t) with g | g
  · exact H.e g d hd
  · exact (H.k1 g (d := d + 1) (by omega)).ex (by omega) (H.hd g)
theorem bru_same {a b : Int} (h : t < a ↔ t < b) : bru t a us = bru t b us := by
  unfold bru
  by_cases h1 : t < a
  · rw [if_pos h1, if_pos (h.1 h1)]
  · rw [if_neg h1, if_neg (fun x => h1 (h.2 x))]
theorem Nk.e0 (H : Nk E M t us e h) (hh : 1 <= h) {d : Nat} (hd : d + h <= 100) : RE E M d (bru t 0 us) e := by
  have h0 := H.t0
  rw [bru, if_neg (by omega)]
  exact H.ex hh hd
theorem Nk.p6 (H : Nk E M t us e h) (hh : 1 <= h) {d : Nat} (hd : d + h <= 100) : RP E M d (bru t 6 us) e := by
  have h7 := H.t7
  rcases (by omega : t < 6 ∨ t = 6 ∨ t = 7) with g | g | g
  · rw [bru, if_pos g]; exact (H.ex hh hd).a.p
  · rw [bru, if_neg (by omega)]; exact H.p g d (by omega)
  · rw [bru, if_neg (by omega)]; exact (H.a g d (by omega)).p
theorem Nk.b5 (H : Nk E M t us e h) (hh : 1 <= h) {d : Nat} (hd : d + h <= 100) : RB E M d (bru t 5 us) e := by
  by_cases g : t = 5
  · rw [bru, if_neg (by omega)]; exact H.r g d (by omega)
  · have e1 : bru t 5 us = bru t 6 us := bru_same (by omega)
    rw [e1]
    exact (H.p6 hh hd).b (bg_bru H (by omega))
theorem Nk.c4 (H : Nk E M t us e h) (hh : 1 <= h) {d : Nat} (hd : d + h <= 100) : RC E M d (bru t 4 us) e := by
  by_cases g : t = 4
  · rw [bru, if_neg (by omega)]; exact H.c g d (by omega)
  · have e1 : bru t 4 us = bru t 5 us := bru_same (by omega)
    rw [e1]
    exact (H.b5 hh hd).c
theorem Nk.d3 (H : Nk E M t us e h) (hh : 1 <= h) {d : Nat} (hd : d + h <= 100) : RD E M d (bru t 3 us) e := by
  by_cases g : t = 3
  · rw [bru, if_neg (by omega)]; exact H.d g d (by omega)
  · have e1 : bru t 3 us = bru t 4 us := bru_same (by omega)
    rw [e1]
    exact (H.c4 hh hd).d
theorem Nk.f2 (H : Nk E M t us e h) (hh : 1 <= h) {d : Nat} (hd : d + h <= 100) : RF E M d (bru t 2 us) e := by
  by_cases g : t = 2
  · rw [bru, if_neg (by omega)]; exact H.f g d (by omega)
  · have e1 : bru t 2 us = bru t 3 us := bru_same (by omega)
    rw [e1]
    exact (H.d3 hh hd).f
end
section
variable {E : Int} {d : Nat}
abbrev tW (b : List UInt8) (p : Int) : Tk := ⟨1, ⟨b.toArray⟩, 0, p⟩
abbrev tS (b : List UInt8) (p : Int) : Tk := ⟨7, ⟨b.toArray⟩, 0, p⟩
abbrev tN (b : ByteArray) (p : Int) : Tk := ⟨2, b, 0, p⟩
abbrev tT (b : ByteArray) (p : Int) : Tk := ⟨3, b, 0, p⟩
theorem ev_fun {l l1 : List Tk} {a : List Nd} {p q r : Int} {nm : ByteArray} (hd : d < 100) (h : Ev E .expr (d + 1) l (.ok a l1)) :
    Ev E .expr d (tW w_fun p :: tN nm q :: tS s_arrow r :: l) (.ok (joinN { mk 5 p with nm := nm } [a]) l1) := ev1 h fun f e1 => by
  simp only [G, List.tail_cons]
  rw [if_neg (by omega), if_pos (isy rfl), text_y (t := tN nm q) (k := 2) rfl, must_y (t := tS s_arrow r) (k := 7) (s := s_arrow) rfl, e1, go_y]
  rfl
theorem ev_let {l l1 l2 : List Tk} {a b : List Nd} {p q r s : Int} {nm : ByteArray} (hd : d < 100) (h : Ev E .expr (d + 1) l (.ok a (tW w_in s :: l1))) (h2 : Ev E .expr (d + 1) l1 (.ok b l2)) :
    Ev E .expr d (tW w_let p :: tN nm q :: tS s_eqs r :: l) (.ok (joinN { mk 7 p with nm := nm } [a, b]) l2) := ev2 h h2 fun f e1 e2 => by
  simp only [G, List.tail_cons]
  rw [if_neg (by omega), if_neg (isn rfl), if_pos (isy rfl), if_neg (isn rfl), text_y (t := tN nm q) (k := 2) rfl, must_y (t := tS s_eqs r) (k := 7) (s := s_eqs) rfl, e1, go_y, must_y (t := tW w_in s) (k := 1) (s := w_in) rfl, e2, go_y]
  rfl
theorem ev_rec {l l1 l2 : List Tk} {a b : List Nd} {p o q r s : Int} {nm : ByteArray} (hd : d < 100) (ha : lastK a = 5) (h : Ev E .expr (d + 1) l (.ok a (tW w_in s :: l1))) (h2 : Ev E .expr (d + 1) l1 (.ok b l2)) :
    Ev E .expr d (tW w_let p :: tW w_rec o :: tN nm q :: tS s_eqs r :: l) (.ok (joinN { mk 8 p with nm := nm } [a, b]) l2) := ev2 h h2 fun f e1 e2 => by
  simp only [G, List.tail_cons]
  rw [if_neg (by omega), if_neg (isn rfl), if_pos (isy rfl), if_pos (isy rfl), text_y (t := tN nm q) (k := 2) rfl, must_y (t := tS s_eqs r) (k := 7) (s := s_eqs) rfl, e1, go_y, if_pos ha, must_y (t := tW w_in s) (k := 1) (s := w_in) rfl, e2, go_y]
  rfl
theorem ev_if {l l1 l2 l3 : List Tk} {a b c : List Nd} {p q r : Int} (hd : d < 100) (h : Ev E .expr (d + 1) l (.ok a (tW w_then q :: l1))) (h2 : Ev E .expr (d + 1) l1 (.ok b (tW w_else r :: l2))) (h3 : Ev E .expr (d + 1) l2 (.ok c l3)) :
    Ev E .expr d (tW w_if p :: l) (.ok (joinN (mk 9 p) [a, b, c]) l3) := ev3 h h2 h3 fun f e1 e2 e3 => by
  simp only [G, List.tail_cons]
  rw [if_neg (by omega), if_neg (isn rfl), if_neg (isn rfl), if_pos (isy rfl), e1, go_y, must_y (t := tW w_then q) (k := 1) (s := w_then) rfl, e2, go_y, must_y (t := tW w_else r) (k := 1) (s := w_else) rfl, e3, go_y]
  rfl
theorem ev_int {l : List Tk} {n p : Int} {s : ByteArray} : Ev E .atom d (⟨4, s, n, p⟩ :: l) (.ok (joinN { mk 1 p with n := n } []) l) := ev0 fun f => by
  simp only [G, ↓reduceIte]
theorem ev_str {l : List Tk} {n p : Int} {s : ByteArray} : Ev E .atom d (⟨5, s, n, p⟩ :: l) (.ok (joinN { mk 3 p with s := s } []) l) := ev0 fun f => by
  simp only [G, Int.reduceEq, ↓reduceIte]
theorem ev_var {l : List Tk} {p : Int} {s : ByteArray} : Ev E .atom d (tN s p :: l) (.ok (joinN { mk 4 p with nm := s } []) l) := ev0 fun f => by
  simp only [G, Int.reduceEq, ↓reduceIte]
theorem ev_true {l : List Tk} {p : Int} : Ev E .atom d (tW w_true p :: l) (.ok (joinN { mk 2 p with n := 1 } []) l) := ev0 fun f => by
  simp only [G, Int.reduceEq, ↓reduceIte]
  rw [if_pos (isy rfl)]
theorem ev_false {l : List Tk} {p : Int} : Ev E .atom d (tW w_false p :: l) (.ok (joinN (mk 2 p) []) l) := ev0 fun f => by
  simp only [G, Int.reduceEq, ↓reduceIte]
  rw [if_neg (isn rfl), if_pos (isy rfl)]
theorem ev_rec0 {l : List Tk} {p q : Int} : Ev E .atom d (tS s_lbra p :: tS s_rbra q :: l) (.ok (joinN (mk 11 p) []) l) := ev0 fun f => by
  simp only [G, Int.reduceEq, ↓reduceIte]
  rw [if_neg (isn rfl), if_neg (isn rfl), if_neg (isn rfl), if_pos (isy rfl), if_pos (isy rfl)]
  rfl
theorem ev_rec1 {l : List Tk} {p q : Int} {nm : ByteArray} {r : Rs} (h : Ev E (.recL p [] []) d (tN nm q :: l) r) : Ev E .atom d (tS s_lbra p :: tN nm q :: l) r := ev1 h fun f e1 => by
  simp only [G, Int.reduceEq, ↓reduceIte]
  rw [if_neg (isn rfl), if_neg (isn rfl), if_neg (isn rfl), if_pos (isy rfl), if_neg (isn rfl)]
  exact e1
theorem ev_case {l l1 : List Tk} {a : List Nd} {p q : Int} {r : Rs} (h : Ev E .expr d l (.ok a (tW w_of q :: l1))) (h2 : Ev E (.casL p [] [a]) d l1 r) : Ev E .atom d (tW w_case p :: l) r := ev2 h h2 fun f e1 e2 => by
  simp only [G, Int.reduceEq, ↓reduceIte]
  rw [if_neg (isn rfl), if_neg (isn rfl), if_neg (isn rfl), if_neg (isn rfl), if_pos (isy rfl), e1, go_y, must_y (t := tW w_of q) (k := 1) (s := w_of) rfl]
  exact e2
theorem ev_recL1 {l l1 : List Tk} {a : List Nd} {p q o s : Int} {nm : ByteArray} {fs : List Fld} {ts : List (List Nd)} {r : Rs} (hl : ¬ 30 <= fs.length) (hn : (fs.any fun y => y.nm.toList == nm.toList) = false)
    (h : Ev E .expr d l (.ok a (tS s_comma s :: l1))) (h2 : Ev E (.recL p (fs ++ [fld nm ⟨#[]⟩]) (ts ++ [a])) d l1 r) : Ev E (.recL p fs ts) d (tN nm q :: tS s_eqs o :: l) r := ev2 h h2 fun f e1 e2 => by
  simp only [G]
  rw [lab_y (t := tN nm q) (k := 2) rfl hl hn, must_y (t := tS s_eqs o) (k := 7) (s := s_eqs) rfl, e1, go_y, if_pos (isy rfl)]
  exact e2
theorem ev_recL0 {l l1 : List Tk} {a : List Nd} {p q o s : Int} {nm : ByteArray} {fs : List Fld} {ts : List (List Nd)} (hl : ¬ 30 <= fs.length) (hn : (fs.any fun y => y.nm.toList == nm.toList) = false)
    (h : Ev E .expr d l (.ok a (tS s_rbra s :: l1))) : Ev E (.recL p fs ts) d (tN nm q :: tS s_eqs o :: l) (.ok (joinN { mk 11 p with l := fs ++ [fld nm ⟨#[]⟩] } (ts ++ [a])) l1) := ev1 h fun f e1 => by
  simp only [G]
  rw [lab_y (t := tN nm q) (k := 2) rfl hl hn, must_y (t := tS s_eqs o) (k := 7) (s := s_eqs) rfl, e1, go_y, if_neg (isn rfl), must_y (t := tS s_rbra s) (k := 7) (s := s_rbra) rfl]
theorem ev_casL1 {l l1 : List Tk} {a : List Nd} {p q o o2 s : Int} {nm vr : ByteArray} {fs : List Fld} {ts : List (List Nd)} {r : Rs} (hl : ¬ 30 <= fs.length) (hn : (fs.any fun y => y.nm.toList == nm.toList) = false)
    (h : Ev E .expr d l (.ok a (tS s_bar s :: l1))) (h2 : Ev E (.casL p (fs ++ [fld nm vr]) (ts ++ [a])) d l1 r) : Ev E (.casL p fs ts) d (tT nm q :: tN vr o2 :: tS s_arrow o :: l) r := ev2 h h2 fun f e1 e2 => by
  simp only [G]
  rw [lab_y (t := tT nm q) (k := 3) rfl hl hn, text_y (t := tN vr o2) (k := 2) rfl, must_y (t := tS s_arrow o) (k := 7) (s := s_arrow) rfl, e1, go_y, if_pos (isy rfl)]
  exact e2
theorem ev_casL0 {l l1 : List Tk} {a : List Nd} {p q o o2 s : Int} {nm vr : ByteArray} {fs : List Fld} {ts : List (List Nd)} (hl : ¬ 30 <= fs.length) (hn : (fs.any fun y => y.nm.toList == nm.toList) = false)
    (h : Ev E .expr d l (.ok a (tW w_end s :: l1))) : Ev E (.casL p fs ts) d (tT nm q :: tN vr o2 :: tS s_arrow o :: l) (.ok (joinN { mk 14 p with l := fs ++ [fld nm vr] } (ts ++ [a])) l1) := ev1 h fun f e1 => by
  simp only [G]
  rw [lab_y (t := tT nm q) (k := 3) rfl hl hn, text_y (t := tN vr o2) (k := 2) rfl, must_y (t := tS s_arrow o) (k := 7) (s := s_arrow) rfl, e1, go_y, if_neg (isn rfl), must_y (t := tW w_end s) (k := 1) (s := w_end) rfl]
end
end Go.Proofs.YtjakeidbajkdcaaGreatDoor.Y
