import PyProof.Rows.All
import KE.OsGo
import KE.OsEnd
import Open.SpecLaws
import PySem.Challenge.RW_piecerow_s06_compare
open PySem PySem.W
set_option Elab.async false
namespace Ls
open PySem PySem.W PySem.Calls PyProof.Rows PySem.Spec

section
variable {prog : Program} {w : World} {A : Around} {E : Value → Shared → Prop} {s : Shared}
variable {env : Env} {h₀ : Heap} {x : Str} {body : List Stmt} {Q : Flow → Shared → Prop}

/-- a for over a list of lists of whole numbers, by an invariant of names and ledger -/
theorem iter_lists {l : Addr} {vs : List Value} {nss : List (List Int)} {m₀ : Str → Option Value} {news : List (Addr × Obj)}
    (J : Nat → (Str → Option Value) → List (Addr × Obj) → Prop) (hh : A.handled = none)
    (hl : h₀.IsList l vs.toArray) (hi : SitAll ObjKind.listI h₀ vs nss)
    (F : Fr h₀ env.locals s.heap m₀) (N : News h₀ env.locals s.heap news) (hj : J 0 m₀ news)
    (turn : ∀ i ns a us m₁ news₁ h tk own, nss[i]? = some ns → h₀.IsList a us.toArray → IntsAre us ns →
      news₁.map (·.1) = news.map (·.1) → OwnOff own (news.map (·.1)) → J i m₁ news₁ →
      Fr h₀ env.locals h (fun y => if y = x then some (.ref a) else m₁ y) → News h₀ env.locals h (news₁ ++ own) →
      wpAny (model prog w) A (execs body env)
        (InvPostN h₀ env.locals (J (i + 1)) own (news.map (·.1)) { s with heap := h, toks := tk } Q) E
        { s with heap := h, toks := tk })
    (done : ∀ m₁ news₁ h tk, J nss.length m₁ news₁ → Fr h₀ env.locals h m₁ → News h₀ env.locals h news₁ →
      Q .next { s with heap := h, toks := tk }) :
    wpAny (model prog w) A (pyIter (.ref l)) (fun it s₂ => LoopAtV prog w A h₀ env x body Q E it s₂) E s := by
  have here : s.heap.IsList l vs.toArray := hl.at fun o e => F.keep l o e
  obtain ⟨ol, hol, _⟩ := id hl
  have low : l < h₀.objs.size := Heap.lt_size hol
  have apart : l ≠ s.heap.objs.size := Nat.ne_of_lt (Nat.lt_trans (Nat.lt_of_lt_of_le low F.above) F.ns.lt)
  have size : vs.toArray.size = nss.length := by rw [List.size_toArray]; exact hi.length
  refine wpAny_pyIter_list here ?_
  have Wk := Walks.list (prog := prog) (w := w) hh s.heap.objs.size l apart vs.toArray
  rw [size] at Wk
  refine loop_invN J Wk ?_ ?_ ?_ ?_ ?_ (F.push _) ?_ hj ?_ ?_
  · intro bad
    rcases List.mem_cons.mp bad with e | bad
    · exact Nat.lt_irrefl _ (e ▸ F.ns.lt)
    · have e := List.mem_singleton.mp bad
      exact Nat.lt_irrefl _ (e ▸ Nat.lt_of_lt_of_le low F.above)
  · intro b hb
    have e := List.mem_singleton.mp hb
    exact e ▸ next_is_new F
  · intro p hp bad
    have e := List.mem_singleton.mp bad
    exact Nat.lt_irrefl _ (e ▸ Heap.lt_size (N p hp).1)
  · intro p hp bad
    rcases List.mem_cons.mp bad with e | bad
    · exact Nat.lt_irrefl _ (e ▸ Heap.lt_size (N p hp).1)
    · have e := List.mem_singleton.mp bad
      have fresh := (N p hp).2.2
      rw [e, hol] at fresh
      cases fresh
  · exact ⟨⟨_, Heap.get?_push_size _ rfl, rfl, rfl⟩, here.at fun o e => Heap.get?_push_of_some _ e⟩
  · exact fun p hp => ⟨Heap.get?_push_of_some _ (N p hp).1, (N p hp).2⟩
  · intro i v m₁ news₁ h tk own _ hv hadr hoff hJ F₁ N₁
    have hv' : vs[i]? = some v := by simpa using hv
    obtain ⟨ns, hns, a, us, rfl, hL, hI⟩ := hi.get i v hv'
    exact turn i ns a us m₁ news₁ h tk own hns hL hI hadr hoff hJ F₁ N₁
  · exact done

/-- what holds between two turns of a loop that stores nothing -/
def Kept (x : Str) (m₀ : Str → Option Value) (news : List (Addr × Obj)) (P : Prop) (m : Str → Option Value) (nx : List (Addr × Obj)) : Prop :=
  nx = news ∧ (∀ z, z ≠ x → m z = m₀ z) ∧ P

theorem map_off {x : Str} {m m₀ : Str → Option Value} {v : Option Value} (h : ∀ z, z ≠ x → m z = m₀ z) :
    (fun y => if y = x then v else m y) = fun y => if y = x then v else m₀ y := by
  funext y
  by_cases e : y = x
  · rw [if_pos e, if_pos e]
  · rw [if_neg e, if_neg e]
    exact h y e

theorem split_at {α : Type} {l : List α} {i : Nat} {a : α} (h : l[i]? = some a) :
    l.take (i + 1) = l.take i ++ [a] ∧ l = l.take i ++ a :: l.drop (i + 1) := by
  have h1 : l.take (i + 1) = l.take i ++ [a] := by simp [List.take_add_one, h]
  refine ⟨h1, ?_⟩
  have h2 := List.take_append_drop (i + 1) l
  rw [h1, List.append_assoc] at h2
  exact h2.symm

/-- a search over a list of lists: it stores nothing, a turn may leave -/
theorem search_lists {l : Addr} {vs : List Value} {nss : List (List Int)} {as : List Addr} {m₀ : Str → Option Value} {news : List (Addr × Obj)}
    (P : List (List Int) → Prop) (hh : A.handled = none)
    (F : Fr h₀ env.locals s.heap m₀) (N : News h₀ env.locals s.heap news)
    (hl : h₀.IsList l vs.toArray) (hr : ReadsAll h₀ vs (nss.map listDI) as)
    (hlay : PyData.layable0 (.list (nss.map listDI)) = true) (hp : P [])
    (turn : ∀ pre ns post a us h tk own, nss = pre ++ ns :: post → h₀.IsList a us.toArray → IntsAre us ns → ns.length ≤ 2 ^ 20 → InItemTurn →
      OwnOff own (news.map (·.1)) → P pre →
      Fr h₀ env.locals h (fun y => if y = x then some (.ref a) else m₀ y) → News h₀ env.locals h (news ++ own) →
      wpAny (model prog w) A (execs body env)
        (InvPostN h₀ env.locals (Kept x m₀ news (P (pre ++ [ns]))) own (news.map (·.1)) { s with heap := h, toks := tk } Q) E
        { s with heap := h, toks := tk })
    (done : ∀ (u : Str → Option Value) h tk, P nss → Fr h₀ env.locals h (fun y => if y = x then u y else m₀ y) →
      News h₀ env.locals h news → Q .next { s with heap := h, toks := tk }) :
    wpAny (model prog w) A (pyIter (.ref l)) (fun it s₂ => LoopAtV prog w A h₀ env x body Q E it s₂) E s := by
  refine iter_lists (fun i => Kept x m₀ news (P (nss.take i))) hh hl (readsAll_listsI hr) F N ⟨rfl, fun _ _ => rfl, by simpa using hp⟩ ?_ ?_
  · rintro i ns a us m₁ news₁ h tk own hns hL hI _ hoff ⟨rfl, hm, hP⟩ F₁ N₁
    obtain ⟨e1, e2⟩ := split_at hns
    rw [map_off hm] at F₁
    rw [e1]
    exact turn _ ns _ a us h tk own e2 hL hI (fit_itemI hlay (List.mem_of_getElem? hns)) .mk hoff hP F₁ N₁
  · rintro m₁ news₁ h tk ⟨rfl, hm, hP⟩ F₁ N₁
    rw [List.take_length] at hP
    refine done m₁ h tk hP ?_ N₁
    have e : (fun y => if y = x then m₁ y else m₀ y) = m₁ := by
      funext y
      by_cases e : y = x
      · rw [if_pos e]
      · rw [if_neg e]
        exact (hm y e).symm
    rw [e]
    exact F₁

theorem kept_end {L : Addr} {m₀ m' : Str → Option Value} {news news' own : List (Addr × Obj)} {P : Prop} {s₁ : Shared} {h' : Heap} {tk : Nat}
    (F : Fr h₀ L h' m') (N : News h₀ L h' news') (hn : news' = news ++ own) (hm : ∀ z, z ≠ x → m' z = m₀ z) (hp : P) :
    InvEndN h₀ L (Kept x m₀ news P) own (news.map (·.1)) s₁ { s₁ with heap := h', toks := tk } := by
  subst hn
  exact InvEndN.intro F N ⟨rfl, hm, hp⟩ rfl (fun p hp => List.mem_append.mpr (.inl hp)) (fun p hp => List.mem_append.mpr (.inr hp))
end
end Ls
namespace Ls
open PySem PySem.W PySem.Calls PyProof.Rows PySem.Spec

/- the request, read -/

theorem encAll_inj : ∀ (cs : List Codec), cs.all Codec.ok = true → ∀ a b : Codec.denoteAll cs, Codec.encAll cs a = Codec.encAll cs b → a = b
  | [], _, _, _, _ => rfl
  | c :: cs, k, a, b, h => by
    have k1 : c.ok = true ∧ cs.all Codec.ok = true := by
      have k2 : (c.ok && cs.all Codec.ok) = true := k
      exact Bool.and_eq_true_iff.mp k2
    have h1 : c.enc a.1 :: Codec.encAll cs a.2 = c.enc b.1 :: Codec.encAll cs b.2 := h
    injection h1 with h2 h3
    have e1 := Codec.enc_inj c k1.1 a.1 b.1 h2
    have e2 := encAll_inj cs k1.2 a.2 b.2 h3
    exact Prod.ext e1 e2

theorem pre_at {r : OpenSpec} (said : r.wellSaid = true) (a : Codec.denoteAll r.args) {as : List WData} (e : as = Codec.encAll r.args a)
    (h : r.pre as = true) : Codec.withinAll r.args a = true := by
  obtain ⟨b, hb, _, eb⟩ := (OpenSpec.pre_iff said as).mp h
  have e2 : a = b := encAll_inj r.args (Codec.ok_all r.args (OpenSpec.fits_of said)) a b (e.symm.trans eb)
  exact e2 ▸ hb

theorem post_at {r : OpenSpec} (said : r.wellSaid = true) (a : Codec.denoteAll r.args) {as : List WData} (e : as = Codec.encAll r.args a)
    (h : Codec.withinAll r.args a = true) {d : WData} (hd : d = r.ret.enc (Codec.app r.args r.f a)) : r.post as d = true := by
  subst e
  exact (OpenSpec.post_iff said h d []).mpr hd

theorem ofPy_ints (ns : List Int) : ofPy (listDI ns) = WData.list (ns.map WData.int) := os_list rfl

theorem ofPys_lists : ∀ nss : List (List Int), ofPys (nss.map listDI) = nss.map fun ns => WData.list (ns.map WData.int)
  | [] => by simp [ofPys]
  | ns :: r => by
    rw [List.map_cons, List.map_cons, ← ofPys_lists r, ← ofPy_ints ns]
    simp [ofPys]

theorem ofPy_lists (nss : List (List Int)) : ofPy (PyData.list (nss.map listDI)) = WData.list (nss.map fun ns => WData.list (ns.map WData.int)) := by
  rw [← ofPys_lists]
  simp [ofPy]

theorem ans_list {ds : List PyData} {ys : List Int} {lo hi : Int} {least most : Nat} (h : ds = ys.map PyData.int) :
    ofPy (.list ds) = (Codec.list least most (.int lo hi)).enc ys := os_list h

theorem within_lists {nss : List (List Int)} {a b c d : Nat} {lo hi : Int}
    (h : (Codec.list a b (.list c d (.int lo hi))).within nss = true) :
    nss.length ≤ b ∧ ∀ ns ∈ nss, ns.length ≤ d ∧ ∀ x ∈ ns, lo ≤ x ∧ x ≤ hi := by
  have h1 : (Codec.inNat a b nss.length && nss.all fun ns => (Codec.inNat c d ns.length && ns.all (Codec.inInt lo hi))) = true := h
  rw [Bool.and_eq_true_iff] at h1
  refine ⟨(Codec.inNat_iff.mp h1.1).2, fun ns hns => ?_⟩
  have h2 := List.all_eq_true.mp h1.2 ns hns
  rw [Bool.and_eq_true_iff] at h2
  exact ⟨(Codec.inNat_iff.mp h2.1).2, fun x hx => Codec.inInt_iff.mp (List.all_eq_true.mp h2.2 x hx)⟩

/- the specification, for pieces that are refused and for others -/

structure Small (nss : List (List Int)) : Prop where
  all : ∀ ns ∈ nss, ns.length ≤ 65536

theorem small_nil : Small [] := ⟨fun _ h => nomatch h⟩
theorem small_snoc {pre : List (List Int)} {ns : List Int} (h : Small pre) (hn : (ns.length : Int) ≤ 65536) : Small (pre ++ [ns]) := by
  refine ⟨fun ms hm => ?_⟩
  rcases List.mem_append.mp hm with hm | hm
  · exact h.all ms hm
  · rw [List.mem_singleton.mp hm]
    omega

theorem pieces_many {nss : List (List Int)} (h : 16 < (nss.length : Int)) : Sy08Neutral.pieces nss = none := by
  unfold Sy08Neutral.pieces
  refine if_neg ?_
  intro hc
  have h1 := (Bool.and_eq_true_iff.mp hc).1
  have h2 : nss.length ≤ 16 := of_decide_eq_true h1
  omega

theorem pieces_long {pre post : List (List Int)} {ns : List Int} (h : 65536 < (ns.length : Int)) : Sy08Neutral.pieces (pre ++ ns :: post) = none := by
  unfold Sy08Neutral.pieces
  refine if_neg ?_
  intro hc
  have h1 := List.all_eq_true.mp (Bool.and_eq_true_iff.mp hc).2 ns (List.mem_append.mpr (.inr (.head _)))
  have h2 : ns.length ≤ 65536 := of_decide_eq_true h1
  omega

theorem pieces_good {nss : List (List Int)} (h : (nss.length : Int) ≤ 16) (hs : Small nss) : Sy08Neutral.pieces nss = some (nss.map Sy08Neutral.nats) := by
  unfold Sy08Neutral.pieces
  refine if_pos ?_
  rw [Bool.and_eq_true_iff]
  refine ⟨decide_eq_true (by show nss.length ≤ 16; omega), ?_⟩
  refine List.all_eq_true.mpr fun ns hns => decide_eq_true (hs.all ns hns)

theorem nats_flatten (nss : List (List Int)) : Sy08.row (nss.map Sy08Neutral.nats) = Sy08Neutral.nats nss.flatten := by
  unfold Sy08.row Sy08Neutral.nats
  exact (List.map_flatten).symm

theorem length_refused {nss : List (List Int)} (h : Sy08Neutral.pieces nss = none) : PySy08.length nss = [-2] := by
  show Sy08Neutral.told (Sy08.spec (.length (Sy08Neutral.pieces nss))) [] = [-2]
  rw [h]
  rfl

theorem length_good {nss : List (List Int)} (h : Sy08Neutral.pieces nss = some (nss.map Sy08Neutral.nats)) : PySy08.length nss = [(nss.flatten.length : Int)] := by
  show Sy08Neutral.told (Sy08.spec (.length (Sy08Neutral.pieces nss))) [] = _
  rw [h]
  show Sy08Neutral.told ⟨((Sy08.row (nss.map Sy08Neutral.nats)).length : Int), []⟩ [] = _
  rw [nats_flatten]
  unfold Sy08Neutral.told Sy08Neutral.nats
  rw [List.length_map]
  refine if_neg ?_
  show ¬ ((nss.flatten.length : Int) = -2)
  omega

theorem fold_lengths : ∀ (nss : List (List Int)) (z : Int × Unit),
    (nss.foldl (fun (σ : Int × Unit) (a : List Int) => (σ.fst + (a.length : Int), ())) z).fst = z.fst + (nss.flatten.length : Int)
  | [], z => by simp
  | ns :: r, z => by
    rw [List.foldl_cons, fold_lengths r, List.flatten_cons, List.length_append]
    show z.fst + (ns.length : Int) + _ = _
    omega
end Ls
namespace Ls
open PySem PySem.W PySem.Calls PyProof.Rows PySem.Spec

/-- extend by a list that the call has not made -/
theorem meets_extend (l b : Addr) (xs ys : Array Value) (n k : Nat) (dy : Option Addr) (sl : Array (Option Value))
    (door : ¬(!xs.isEmpty && Builtin.List.listTooLong (xs.size + ys.size)) = true) (z1 : xs.size ≤ sizeLine) (z2 : xs.size + ys.size ≤ sizeLine + 1) :
    Meets (Builtin.«list.extend» ⟨[.ref l, .ref b], []⟩) (fun _ R s =>
      s.heap.get? l = some { cls := .type "list", dict := none, data := .seq xs n, slots := #[] } ∧
      s.heap.get? b = some { cls := .type "list", dict := dy, data := .seq ys k, slots := sl } ∧
      R (.ok (.ret Value.none)) { s with heap := s.heap.update l (Obj.mapSeq fun x => x ++ ys), toks := s.toks }) :=
  .of_wp fun prog w A R s h => by
    obtain ⟨hp, g, d, tk, os⟩ := s
    obtain ⟨hl, hb, h⟩ := h
    have g1 := AutoSeq1.idx_int
    have g2 := AutoSeq1.sub_tuple_tuple
    have g3 := AutoSeq1.sub_list_list
    have g4 := AutoSeq1.sub_tuple_list
    have g5 := AutoSeq1.sub_list_tuple
    have z3 : (xs ++ ys).size ≤ sizeLine + 1 := by
      rw [Array.size_append]
      exact z2
    wp_walk using (wpAny_updateSeq hl rfl (hz := z1) (_hz' := z3)), AutoSeq1.wpAny_loadPart' hl, AutoSeq1.wpAny_loadPart' hb
    exact ⟨_, rfl, h⟩

section
variable {prog : Program} {w : World} {A : Around} {E : Value → Shared → Prop} {s : Shared}
variable {h₀ : Heap} {L : Addr} {m : Str → Option Value}

theorem extend_base {D b : Addr} {us ws : List Value} {n : Nat} {own : List (Addr × Obj)} {Q : Value → Shared → Prop}
    (F : Fr h₀ L s.heap m) (N : News h₀ L s.heap ((D, listOf us.toArray n) :: own)) (off : ∀ p ∈ own, p.1 ≠ D)
    (hb : h₀.IsList b ws.toArray) (room : us.length + ws.length ≤ 2 ^ 20)
    (h : ∀ h' k, Fr h₀ L h' m → News h₀ L h' ((D, listOf (us ++ ws).toArray k) :: own) → Q .none { s with heap := h' }) :
    wpAny (model prog w) A (call (.builtin "list.extend") [.ref D, .ref b]) Q E s := by
  have mine := N _ (List.Mem.head _)
  obtain ⟨⟨c, dy, dt, sl⟩, ho, hc, k, hdt⟩ := hb
  have e1 : c = .type "list" := hc
  have e2 : dt = .seq ws.toArray k := hdt
  subst e1
  subst e2
  have line : (2 : Nat) ^ 20 ≤ sizeLine := by decide
  have fits : us.toArray.size + ws.toArray.size ≤ sizeLine := by
    rw [List.size_toArray, List.size_toArray]
    omega
  refine call_meets PySem.F.slot_list_extend ⟨_, mine.1, rfl⟩ PySem.F.entry_list_extend (PySem.F.args_list_extend_2 _ _)
    (meets_extend D b us.toArray ws.toArray n k dy sl (extend_door fits) (Nat.le_trans (Nat.le_add_right _ _) fits) (by omega))
    ⟨mine.1, F.keep _ _ ho, ?_⟩
  have e : us.toArray ++ ws.toArray = (us ++ ws).toArray := by simp
  have now : (s.heap.update D (Obj.mapSeq fun x => x ++ ws.toArray)).get? D =
      some (listOf (us ++ ws).toArray (if (us.toArray ++ ws.toArray).size == us.toArray.size then n else n + 1)) := by
    rw [Heap.get?_update_self _ mine.1 (by rw [mapSeq_app]; rfl), mapSeq_app, e]
  have N' := news_set (pre := []) N (fun _ hp => nomatch hp) off (Heap.SameBut.update ..) now
  exact h _ _ (F.change (Heap.SameBut.update ..) mine.2.1 mine.2.2) N'
end

section
variable {prog : Program} {w : World} {A : Around} {E : Value → Shared → Prop} {s : Shared}
variable {env : Env} {h₀ : Heap} {x : Str} {body : List Stmt} {Q : Flow → Shared → Prop}

/-- one list of the call's own grows, all else stays -/
def Grown (x : Str) (m₀ : Str → Option Value) (d : Addr) (rest : List (Addr × Obj)) (ns : List Int) (m : Str → Option Value) (nx : List (Addr × Obj)) : Prop :=
  ∃ us k, nx = (d, listOf us.toArray k) :: rest ∧ IntsAre us ns ∧ ∀ z, z ≠ x → m z = m₀ z

theorem flatten_fits {nss : List (List Int)} (h : PyData.layable0 (.list (nss.map listDI)) = true) : nss.flatten.length ≤ 2 ^ 20 := by
  have aux : ∀ l : List (List Int), l.flatten.length ≤ PyData.weightAll (l.map listDI) := by
    intro l
    induction l with
    | nil => simp
    | cons ns r ih =>
      have h2 := PyData.length_le_weightAll (ns.map PyData.int)
      rw [List.length_map] at h2
      rw [List.flatten_cons, List.length_append, List.map_cons]
      simp only [PyData.weightAll, listDI, PyData.weight] at ih ⊢
      omega
  have h1 := aux nss
  have h3 : PyData.weight (.list (nss.map listDI)) ≤ 2 ^ 20 := by
    unfold PyData.layable0 at h
    simp only [Bool.and_eq_true, decide_eq_true_eq] at h
    omega
  simp only [PyData.weight] at h3
  omega

/-- for x in lists: some list of the call's own, empty ahead of the loop, grows by x -/
theorem extend_lists {l d : Addr} {vs : List Value} {nss : List (List Int)} {as : List Addr} {k₀ : Nat} {m₀ : Str → Option Value} {rest : List (Addr × Obj)}
    (hh : A.handled = none) (F : Fr h₀ env.locals s.heap m₀) (N : News h₀ env.locals s.heap ((d, listOf #[] k₀) :: rest))
    (hl : h₀.IsList l vs.toArray) (hr : ReadsAll h₀ vs (nss.map listDI) as)
    (hlay : PyData.layable0 (.list (nss.map listDI)) = true)
    (turn : ∀ pre ns post a us ws k h tk own, nss = pre ++ ns :: post → h₀.IsList a ws.toArray → IntsAre ws ns → IntsAre us pre.flatten →
      us.length + ws.length ≤ 2 ^ 20 → OwnOff own (((d, listOf #[] k₀) :: rest).map (·.1)) →
      Fr h₀ env.locals h (fun y => if y = x then some (.ref a) else m₀ y) → News h₀ env.locals h ((d, listOf us.toArray k) :: (rest ++ own)) →
      wpAny (model prog w) A (execs body env)
        (InvPostN h₀ env.locals (Grown x m₀ d rest (pre ++ [ns]).flatten) own (((d, listOf #[] k₀) :: rest).map (·.1)) { s with heap := h, toks := tk } Q) E
        { s with heap := h, toks := tk })
    (done : ∀ (u : Str → Option Value) us k h tk, IntsAre us nss.flatten → nss.flatten.length ≤ 2 ^ 20 →
      Fr h₀ env.locals h (fun y => if y = x then u y else m₀ y) →
      News h₀ env.locals h ((d, listOf us.toArray k) :: rest) → Q .next { s with heap := h, toks := tk }) :
    wpAny (model prog w) A (pyIter (.ref l)) (fun it s₂ => LoopAtV prog w A h₀ env x body Q E it s₂) E s := by
  refine iter_lists (fun i => Grown x m₀ d rest (nss.take i).flatten) hh hl (readsAll_listsI hr) F N ⟨[], k₀, rfl, by simpa using IntsAre.nil, fun _ _ => rfl⟩ ?_ ?_
  · rintro i ns a ws m₁ news₁ h tk own hns hL hI _ hoff ⟨us, k, rfl, hu, hm⟩ F₁ N₁
    obtain ⟨e1, e2⟩ := split_at hns
    rw [map_off hm] at F₁
    rw [e1]
    refine turn _ ns _ a us ws k h tk own e2 hL hI hu ?_ hoff F₁ N₁
    have fit := flatten_fits hlay
    rw [e2, List.flatten_append, List.flatten_cons, List.length_append, List.length_append] at fit
    have q1 := hu.length
    have q2 := hI.length
    omega
  · rintro m₁ news₁ h tk ⟨us, k, rfl, hu, hm⟩ F₁ N₁
    rw [List.take_length] at hu
    refine done m₁ us k h tk hu (flatten_fits hlay) ?_ N₁
    have e : (fun y => if y = x then m₁ y else m₀ y) = m₁ := by
      funext y
      by_cases e : y = x
      · rw [if_pos e]
      · rw [if_neg e]
        exact (hm y e).symm
    rw [e]
    exact F₁

theorem off_rest {d : Addr} {o : Obj} {rest own : List (Addr × Obj)} (h1 : ∀ p ∈ rest, p.1 < d) (h2 : OwnOff own (((d, o) :: rest).map (·.1))) :
    ∀ p ∈ rest ++ own, p.1 ≠ d := by
  intro p hp
  rcases List.mem_append.mp hp with hp | hp
  · exact Nat.ne_of_lt (h1 p hp)
  · exact h2 p hp d (List.Mem.head _)

theorem grown_end {L d : Addr} {m₀ m' : Str → Option Value} {rest own : List (Addr × Obj)} {us ws : List Value} {pre : List (List Int)} {ns : List Int}
    {k k₀ tk : Nat} {s₁ : Shared} {h' : Heap} (F : Fr h₀ L h' m') (N : News h₀ L h' ((d, listOf (us ++ ws).toArray k) :: (rest ++ own)))
    (hu : IntsAre us pre.flatten) (hw : IntsAre ws ns) (hm : ∀ z, z ≠ x → m' z = m₀ z) :
    InvEndN h₀ L (Grown x m₀ d rest (pre ++ [ns]).flatten) own (((d, listOf #[] k₀) :: rest).map (·.1)) s₁ { s₁ with heap := h', toks := tk } := by
  refine InvEndN.intro F N ⟨us ++ ws, k, rfl, ?_, hm⟩ rfl ?_ ?_
  · rw [List.flatten_append]
    have e : [ns].flatten = ns := by simp
    rw [e]
    exact hu.append hw
  · intro p hp
    rcases List.mem_cons.mp hp with rfl | hp
    · exact .head _
    · exact .tail _ (List.mem_append.mpr (.inl hp))
  · intro p hp
    exact .tail _ (List.mem_append.mpr (.inr hp))
end
end Ls
namespace Ls
open PySem PySem.W PySem.Calls PyProof.Rows PySem.Spec

theorem told_row {c : Int} {o : List Nat} {l : List Nat} (h : c ≠ -2) : Sy08Neutral.told ⟨c, o⟩ l = c :: l.map fun (n : Nat) => (n : Int) := by
  unfold Sy08Neutral.told
  exact if_neg h

theorem nats_back : ∀ {l : List Int}, (∀ x ∈ l, 0 ≤ x) → ((Sy08Neutral.nats l).map fun (n : Nat) => (n : Int)) = l
  | [], _ => rfl
  | x :: r, h => by
    have h1 := h x (.head _)
    have h2 := nats_back (l := r) fun y hy => h y (.tail _ hy)
    unfold Sy08Neutral.nats at h2 ⊢
    rw [List.map_cons, List.map_cons, h2]
    have e : ((x.toNat : Nat) : Int) = x := by omega
    rw [e]

theorem nats_drop (l : List Int) (k : Nat) : (Sy08Neutral.nats l).drop k = Sy08Neutral.nats (l.drop k) := by
  unfold Sy08Neutral.nats
  exact List.map_drop.symm
theorem nats_take (l : List Int) (k : Nat) : (Sy08Neutral.nats l).take k = Sy08Neutral.nats (l.take k) := by
  unfold Sy08Neutral.nats
  exact List.map_take.symm
theorem nats_length (l : List Int) : (Sy08Neutral.nats l).length = l.length := List.length_map ..

theorem flat_nonneg {nss : List (List Int)} {d : Nat} {hi : Int} (h : ∀ ns ∈ nss, ns.length ≤ d ∧ ∀ x ∈ ns, 0 ≤ x ∧ x ≤ hi) : ∀ x ∈ nss.flatten, 0 ≤ x := by
  intro x hx
  obtain ⟨ns, hns, hxn⟩ := List.mem_flatten.mp hx
  exact ((h ns hns).2 x hxn).1

theorem take_refused {b n : Int} {nss : List (List Int)} (h : Sy08Neutral.pieces nss = none) : PySy08.take b n nss = [-2] := by
  show Sy08Neutral.told (Sy08.spec (.take (Sy08Neutral.pieces nss) b.toNat n.toNat)) _ = [-2]
  rw [h]
  rfl

theorem take_good {b n : Int} {nss : List (List Int)} (h : Sy08Neutral.pieces nss = some (nss.map Sy08Neutral.nats)) (hx : ∀ x ∈ nss.flatten, 0 ≤ x) :
    PySy08.take b n nss = (((nss.flatten.drop b.toNat).take n.toNat).length : Int) :: (nss.flatten.drop b.toNat).take n.toNat := by
  show (let x := Sy08.spec (.take (Sy08Neutral.pieces nss) b.toNat n.toNat); Sy08Neutral.told x x.out) = _
  rw [h]
  show Sy08Neutral.told ⟨((((Sy08.row (nss.map Sy08Neutral.nats)).drop b.toNat).take n.toNat).length : Int), ((Sy08.row (nss.map Sy08Neutral.nats)).drop b.toNat).take n.toNat⟩
    (((Sy08.row (nss.map Sy08Neutral.nats)).drop b.toNat).take n.toNat) = _
  rw [nats_flatten, nats_drop, nats_take, nats_length, told_row (by omega)]
  rw [nats_back]
  intro x hm
  exact hx x (List.mem_of_mem_drop (List.mem_of_mem_take hm))

theorem cut (fl : List Int) {b n S T : Int} (hb : 0 ≤ b) (hn : 0 ≤ n) (hS : S = if (fl.length : Int) < b + n then (fl.length : Int) else b + n)
    (hT : T = if S < b then S else b) : (fl.drop T.toNat).take (min S.toNat fl.length - T.toNat) = (fl.drop b.toNat).take n.toNat := by
  by_cases h1 : S < b
  · rw [if_pos h1] at hT
    have h2 : S = (fl.length : Int) := by
      split at hS <;> omega
    have e1 : min S.toNat fl.length - T.toNat = 0 := by omega
    have e2 : fl.drop b.toNat = [] := List.drop_eq_nil_of_le (by omega)
    rw [e1, e2, List.take_zero, List.take_nil]
  · rw [if_neg h1] at hT
    subst hT
    refine List.take_eq_take_iff.mpr ?_
    rw [List.length_drop]
    split at hS <;> omega

theorem stop_not {fl : List Int} {b n : Int} (hb : 0 ≤ b) (hn : 0 ≤ n) (h : (if (fl.length : Int) < b + n then (fl.length : Int) else b + n) < 0) : False := by
  split at h <;> omega
theorem start_not {fl : List Int} {b n S : Int} (hb : 0 ≤ b) (hn : 0 ≤ n) (hS : S = if (fl.length : Int) < b + n then (fl.length : Int) else b + n)
    (h : (if S < b then S else b) < 0) : False := by
  have h1 : ¬ S < 0 := by
    intro h2
    rw [hS] at h2
    exact stop_not hb hn h2
  split at h <;> omega

theorem within_int {lo hi k : Int} (h : (Codec.int lo hi).within k = true) : lo ≤ k ∧ k ≤ hi := Codec.inInt_iff.mp h
theorem within_ints {c d : Nat} {lo hi : Int} {g : List Int} (h : (Codec.list c d (.int lo hi)).within g = true) : g.length ≤ d ∧ ∀ x ∈ g, lo ≤ x ∧ x ≤ hi := by
  have h1 : (Codec.inNat c d g.length && g.all (Codec.inInt lo hi)) = true := h
  rw [Bool.and_eq_true_iff] at h1
  exact ⟨(Codec.inNat_iff.mp h1.1).2, fun x hx => Codec.inInt_iff.mp (List.all_eq_true.mp h1.2 x hx)⟩
theorem within_cons {c : Codec} {cs : List Codec} {a : c.denote} {r : Codec.denoteAll cs} (h : Codec.withinAll (c :: cs) (a, r) = true) :
    c.within a = true ∧ Codec.withinAll cs r = true := by
  have h1 : (c.within a && Codec.withinAll cs r) = true := h
  exact Bool.and_eq_true_iff.mp h1
end Ls
namespace Ls

/- put and move -/

theorem m_told {c : Int} {o : List Nat} {l : List Nat} (h : c ≠ -2) : Sy08Neutral.told ⟨c, o⟩ l = c :: l.map fun (n : Nat) => (n : Int) := by
  unfold Sy08Neutral.told
  exact if_neg h

theorem m_back : ∀ {l : List Int}, (∀ x ∈ l, 0 ≤ x) → ((Sy08Neutral.nats l).map fun (n : Nat) => (n : Int)) = l
  | [], _ => rfl
  | x :: r, h => by
    have h1 := h x (.head _)
    have h2 := m_back (l := r) fun y hy => h y (.tail _ hy)
    unfold Sy08Neutral.nats at h2 ⊢
    rw [List.map_cons, List.map_cons, h2]
    have e : ((x.toNat : Nat) : Int) = x := by omega
    rw [e]
theorem m_drop (l : List Int) (k : Nat) : (Sy08Neutral.nats l).drop k = Sy08Neutral.nats (l.drop k) := by
  unfold Sy08Neutral.nats
  exact List.map_drop.symm
theorem m_take (l : List Int) (k : Nat) : (Sy08Neutral.nats l).take k = Sy08Neutral.nats (l.take k) := by
  unfold Sy08Neutral.nats
  exact List.map_take.symm
theorem m_app (l r : List Int) : Sy08Neutral.nats l ++ Sy08Neutral.nats r = Sy08Neutral.nats (l ++ r) := by
  unfold Sy08Neutral.nats
  exact List.map_append.symm
theorem m_len (l : List Int) : (Sy08Neutral.nats l).length = l.length := List.length_map ..
theorem m_flat (nss : List (List Int)) : Sy08.row (nss.map Sy08Neutral.nats) = Sy08Neutral.nats nss.flatten := by
  unfold Sy08.row Sy08Neutral.nats
  exact (List.map_flatten).symm

theorem m_laid (b : List Nat) (k : Nat) (x : List Nat) : Sy08Neutral.laid b k x = b.take k ++ (x ++ b.drop (k + x.length)) := by
  unfold Sy08Neutral.laid
  by_cases h : x = []
  · rw [if_pos h, h]
    simp
  · rw [if_neg h]

/-- what is put at a place of a row -/
def laidI (fl : List Int) (k : Nat) (x : List Int) : List Int := fl.take k ++ (x ++ fl.drop (k + x.length))

theorem m_laidI {fl x : List Int} {k : Nat} (h : ∀ y ∈ fl, 0 ≤ y) (hx : ∀ y ∈ x, 0 ≤ y) :
    ((Sy08Neutral.laid (Sy08Neutral.nats fl) k (Sy08Neutral.nats x)).map fun (n : Nat) => (n : Int)) = laidI fl k x := by
  rw [m_laid, m_len, m_take, m_drop, m_app, m_app, m_back]
  · rfl
  · intro y hy
    rcases List.mem_append.mp hy with hy | hy
    · exact h y (List.mem_of_mem_take hy)
    · rcases List.mem_append.mp hy with hy | hy
      · exact hx y hy
      · exact h y (List.mem_of_mem_drop hy)

theorem put_refused {a : Int} {g : List Int} {nss : List (List Int)} (h : Sy08Neutral.pieces nss = none) : PySy08.put a g nss = [-2] := by
  show (let x := Sy08.spec (.put ((Sy08Neutral.pieces nss).map fun (y : List Sy08.Bytes) => y.map fun (z : Sy08.Bytes) => z.length) a.toNat (Sy08Neutral.nats g) g.length)
    Sy08Neutral.told x (Sy08Neutral.laid (Sy08Neutral.nats nss.flatten) a.toNat x.out)) = [-2]
  rw [h]
  rfl

theorem sum_lens : ∀ nss : List (List Int), ((nss.map Sy08Neutral.nats).map fun (z : Sy08.Bytes) => z.length).sum = nss.flatten.length
  | [] => rfl
  | ns :: r => by
    rw [List.map_cons, List.map_cons, List.sum_cons, sum_lens r, m_len, List.flatten_cons, List.length_append]

theorem put_good {a : Int} {g : List Int} {nss : List (List Int)} (h : Sy08Neutral.pieces nss = some (nss.map Sy08Neutral.nats)) (hx : ∀ x ∈ nss.flatten, 0 ≤ x)
    (hg : ∀ x ∈ g, 0 ≤ x) (hl : g.length ≤ 66000) :
    PySy08.put a g nss = ((g.take (nss.flatten.length - a.toNat)).length : Int) :: laidI nss.flatten a.toNat (g.take (nss.flatten.length - a.toNat)) := by
  show (let x := Sy08.spec (.put ((Sy08Neutral.pieces nss).map fun (y : List Sy08.Bytes) => y.map fun (z : Sy08.Bytes) => z.length) a.toNat (Sy08Neutral.nats g) g.length)
    Sy08Neutral.told x (Sy08Neutral.laid (Sy08Neutral.nats nss.flatten) a.toNat x.out)) = _
  rw [h]
  have e : Sy08.spec (.put ((some (nss.map Sy08Neutral.nats)).map fun (y : List Sy08.Bytes) => y.map fun (z : Sy08.Bytes) => z.length) a.toNat (Sy08Neutral.nats g) g.length) =
      ⟨((g.take (nss.flatten.length - a.toNat)).length : Int), Sy08Neutral.nats (g.take (nss.flatten.length - a.toNat))⟩ := by
    show (if g.length ≤ Sy08.PUT then _ else _) = _
    rw [if_pos (by unfold Sy08.PUT; omega), sum_lens, m_take, m_len]
  rw [e]
  show Sy08Neutral.told ⟨_, _⟩ (Sy08Neutral.laid (Sy08Neutral.nats nss.flatten) a.toNat (Sy08Neutral.nats (g.take (nss.flatten.length - a.toNat)))) = _
  rw [m_told (by omega), m_laidI hx fun y hy => hg y (List.mem_of_mem_take hy)]

theorem move_refused {a b n : Int} {nss : List (List Int)} (h : Sy08Neutral.pieces nss = none) : PySy08.move a b n nss = [-2] := by
  show (let x := Sy08.spec (.move (Sy08Neutral.pieces nss) a.toNat b.toNat n.toNat)
    Sy08Neutral.told x (Sy08Neutral.laid (Sy08Neutral.nats nss.flatten) b.toNat x.out)) = [-2]
  rw [h]
  rfl

theorem move_good {a b n : Int} {nss : List (List Int)} (h : Sy08Neutral.pieces nss = some (nss.map Sy08Neutral.nats)) (hx : ∀ x ∈ nss.flatten, 0 ≤ x) :
    PySy08.move a b n nss = ((Sy08.span nss.flatten.length a.toNat b.toNat n.toNat : Nat) : Int) ::
      laidI nss.flatten b.toNat ((nss.flatten.drop a.toNat).take (Sy08.span nss.flatten.length a.toNat b.toNat n.toNat)) := by
  show (let x := Sy08.spec (.move (Sy08Neutral.pieces nss) a.toNat b.toNat n.toNat)
    Sy08Neutral.told x (Sy08Neutral.laid (Sy08Neutral.nats nss.flatten) b.toNat x.out)) = _
  rw [h]
  have e : Sy08.spec (.move (some (nss.map Sy08Neutral.nats)) a.toNat b.toNat n.toNat) =
      ⟨((Sy08.span nss.flatten.length a.toNat b.toNat n.toNat : Nat) : Int), Sy08Neutral.nats ((nss.flatten.drop a.toNat).take (Sy08.span nss.flatten.length a.toNat b.toNat n.toNat))⟩ := by
    show (⟨(Sy08.span (Sy08.row (nss.map Sy08Neutral.nats)).length a.toNat b.toNat n.toNat : Nat), ((Sy08.row (nss.map Sy08Neutral.nats)).drop a.toNat).take (Sy08.span (Sy08.row (nss.map Sy08Neutral.nats)).length a.toNat b.toNat n.toNat)⟩ : Sy08.Ans) = _
    rw [m_flat, m_len, m_drop, m_take]
  rw [e]
  show Sy08Neutral.told ⟨_, _⟩ (Sy08Neutral.laid (Sy08Neutral.nats nss.flatten) b.toNat (Sy08Neutral.nats _)) = _
  rw [m_told (by omega), m_laidI hx fun y hy => hx y (List.mem_of_mem_drop (List.mem_of_mem_take hy))]

/- find -/

theorem find_refused {a : Int} {w : List Int} {nss : List (List Int)} (h : Sy08Neutral.pieces nss = none) : PySy08.find a w nss = [-2] := by
  show Sy08Neutral.told (if 1 ≤ w.length ∧ w.length ≤ 64 then Sy08.withRow (Sy08Neutral.pieces nss) _ else Sy08.refused) [] = [-2]
  rw [h]
  split <;> rfl

theorem find_word {a : Int} {w : List Int} {nss : List (List Int)} (h : ¬ (1 ≤ w.length ∧ w.length ≤ 64)) : PySy08.find a w nss = [-2] := by
  show Sy08Neutral.told (if 1 ≤ w.length ∧ w.length ≤ 64 then Sy08.withRow (Sy08Neutral.pieces nss) _ else Sy08.refused) [] = [-2]
  rw [if_neg h]
  rfl

/-- a word stands at a place of a row -/
def Stands (fl w : List Int) (q : Nat) : Prop := (fl.drop q).take w.length = w

theorem nats_inj : ∀ {a b : List Int}, (∀ x ∈ a, 0 ≤ x) → (∀ x ∈ b, 0 ≤ x) → Sy08Neutral.nats a = Sy08Neutral.nats b → a = b := by
  intro a b ha hb h
  rw [← m_back ha, ← m_back hb, h]

theorem stands_iff {fl w : List Int} {q : Nat} (hf : ∀ x ∈ fl, 0 ≤ x) (hw : ∀ x ∈ w, 0 ≤ x) :
    Sy08.standsAt (Sy08Neutral.nats fl) (Sy08Neutral.nats w) q = true ↔ Stands fl w q := by
  unfold Sy08.standsAt Stands
  rw [List.isPrefixOf_iff_prefix, List.prefix_iff_eq_take, m_drop, m_len, m_take]
  constructor
  · intro h
    exact (nats_inj hw (fun x hx => hf x (List.mem_of_mem_drop (List.mem_of_mem_take hx))) h).symm
  · intro h
    rw [h]

theorem stands_room {fl w : List Int} {q : Nat} (h : Stands fl w q) : w.length ≤ fl.length - q := by
  unfold Stands at h
  have h2 := congrArg List.length h
  rw [List.length_take, List.length_drop] at h2
  omega

theorem range_find_none {n : Nat} {p : Nat → Bool} (h : ∀ q, q < n → p q = false) : (List.range n).find? p = none := by
  rw [List.find?_eq_none]
  intro x hx
  rw [h x (List.mem_range.mp hx)]
  exact Bool.false_ne_true

theorem range_find_some {n k : Nat} {p : Nat → Bool} (hk : k < n) (h : ∀ q, q < k → p q = false) (hp : p k = true) : (List.range n).find? p = some k := by
  have e : List.range n = List.range k ++ (k :: (List.range (n - k - 1)).map (fun i => k + 1 + i)) := by
    have e1 : n = k + (1 + (n - k - 1)) := by omega
    rw [e1, List.range_add, List.range_add]
    have e2 : k + (1 + (n - k - 1)) - k - 1 = n - k - 1 := by omega
    rw [e2]
    simp [Nat.add_assoc]
  rw [e, List.find?_append, range_find_none h, List.find?_cons_of_pos hp]
  rfl

theorem find_eq {a : Int} {w : List Int} {nss : List (List Int)} (h : Sy08Neutral.pieces nss = some (nss.map Sy08Neutral.nats)) (h1 : 1 ≤ w.length) (h2 : w.length ≤ 64) :
    PySy08.find a w nss = Sy08Neutral.told (match Sy08.findFrom (Sy08Neutral.nats nss.flatten) (Sy08Neutral.nats w) a.toNat with
      | some p => ⟨p, []⟩
      | none => ⟨-1, []⟩) [] := by
  show Sy08Neutral.told (if 1 ≤ w.length ∧ w.length ≤ 64 then Sy08.withRow (Sy08Neutral.pieces nss) _ else Sy08.refused) [] = _
  rw [if_pos ⟨h1, h2⟩, h]
  show Sy08Neutral.told (match Sy08.findFrom (Sy08.row (nss.map Sy08Neutral.nats)) (Sy08Neutral.nats w) a.toNat with
      | some p => ⟨p, []⟩
      | none => ⟨-1, []⟩) [] = _
  rw [m_flat]

theorem find_there {a : Int} {w : List Int} {nss : List (List Int)} {k : Nat} (h : Sy08Neutral.pieces nss = some (nss.map Sy08Neutral.nats)) (h1 : 1 ≤ w.length) (h2 : w.length ≤ 64)
    (hf : ∀ x ∈ nss.flatten, 0 ≤ x) (hw : ∀ x ∈ w, 0 ≤ x) (ha : a.toNat ≤ k) (hs : Stands nss.flatten w k) (hn : ∀ q : Nat, a.toNat ≤ q → q < k → ¬ Stands nss.flatten w q) :
    PySy08.find a w nss = [(k : Int)] := by
  rw [find_eq h h1 h2]
  have e : Sy08.findFrom (Sy08Neutral.nats nss.flatten) (Sy08Neutral.nats w) a.toNat = some k := by
    unfold Sy08.findFrom
    have hr := stands_room hs
    refine range_find_some (by rw [m_len]; omega) ?_ ?_
    · intro q hq
      by_cases hq2 : a.toNat ≤ q
      · have h3 : ¬ Sy08.standsAt (Sy08Neutral.nats nss.flatten) (Sy08Neutral.nats w) q = true := fun h4 => hn q hq2 hq ((stands_iff hf hw).mp h4)
        simp only [Bool.not_eq_true] at h3
        rw [h3, Bool.and_false]
      · rw [decide_eq_false hq2, Bool.false_and]
    · rw [decide_eq_true ha, (stands_iff hf hw).mpr hs]
      rfl
  rw [e]
  exact m_told (by omega)

theorem find_nowhere {a : Int} {w : List Int} {nss : List (List Int)} (h : Sy08Neutral.pieces nss = some (nss.map Sy08Neutral.nats)) (h1 : 1 ≤ w.length) (h2 : w.length ≤ 64)
    (hf : ∀ x ∈ nss.flatten, 0 ≤ x) (hw : ∀ x ∈ w, 0 ≤ x) (hn : ∀ q : Nat, a.toNat ≤ q → q + w.length ≤ nss.flatten.length → ¬ Stands nss.flatten w q) :
    PySy08.find a w nss = [-1] := by
  rw [find_eq h h1 h2]
  have e : Sy08.findFrom (Sy08Neutral.nats nss.flatten) (Sy08Neutral.nats w) a.toNat = none := by
    unfold Sy08.findFrom
    refine range_find_none ?_
    intro q hq
    by_cases hq2 : a.toNat ≤ q
    · have h3 : ¬ Sy08.standsAt (Sy08Neutral.nats nss.flatten) (Sy08Neutral.nats w) q = true := by
        intro h4
        have h5 := (stands_iff hf hw).mp h4
        have h6 := stands_room h5
        exact hn q hq2 (by omega) h5
      simp only [Bool.not_eq_true] at h3
      rw [h3, Bool.and_false]
    · rw [decide_eq_false hq2, Bool.false_and]
  rw [e]
  exact m_told (by omega)

/- compare -/

theorem compare_left {k : Int} {nss : List (List Int)} (h : Sy08Neutral.pieces (nss.take k.toNat) = none) : PySy08.compare k nss = [-2] := by
  show Sy08Neutral.told (Sy08.spec (.compare (Sy08Neutral.pieces (nss.take k.toNat)) (Sy08Neutral.pieces (nss.drop k.toNat)))) [] = [-2]
  rw [h]
  rfl
theorem compare_right {k : Int} {nss : List (List Int)} (h : Sy08Neutral.pieces (nss.drop k.toNat) = none) : PySy08.compare k nss = [-2] := by
  show Sy08Neutral.told (Sy08.spec (.compare (Sy08Neutral.pieces (nss.take k.toNat)) (Sy08Neutral.pieces (nss.drop k.toNat)))) [] = [-2]
  rw [h]
  cases Sy08Neutral.pieces (nss.take k.toNat) <;> rfl

/-- one row comes before another -/
def before : List Int → List Int → Bool
  | [], [] => false
  | [], _ :: _ => true
  | _ :: _, [] => false
  | a :: x, b :: y => if a = b then before x y else decide (a < b)

theorem order_same : ∀ a : List Nat, Sy08.order a a = 0
  | [] => rfl
  | a :: r => by
    unfold Sy08.order
    rw [if_neg (by omega), if_neg (by omega), order_same r]

theorem order_before : ∀ {a b : List Int}, (∀ x ∈ a, 0 ≤ x) → (∀ x ∈ b, 0 ≤ x) → before a b = true → Sy08.order (Sy08Neutral.nats a) (Sy08Neutral.nats b) = -1
  | [], [], _, _, h => by exact absurd h Bool.false_ne_true
  | [], _ :: _, _, _, _ => rfl
  | _ :: _, [], _, _, h => by exact absurd h Bool.false_ne_true
  | a :: x, b :: y, ha, hb, h => by
    have h1 := ha a (.head _)
    have h2 := hb b (.head _)
    show (if a.toNat < b.toNat then (-1 : Int) else if b.toNat < a.toNat then 1 else Sy08.order (Sy08Neutral.nats x) (Sy08Neutral.nats y)) = -1
    unfold before at h
    by_cases e : a = b
    · rw [if_pos e] at h
      rw [if_neg (by omega), if_neg (by omega)]
      exact order_before (fun z hz => ha z (.tail _ hz)) (fun z hz => hb z (.tail _ hz)) h
    · rw [if_neg e] at h
      have h3 := of_decide_eq_true h
      rw [if_pos (by omega)]

theorem order_after : ∀ {a b : List Int}, (∀ x ∈ a, 0 ≤ x) → (∀ x ∈ b, 0 ≤ x) → a ≠ b → before a b = false → Sy08.order (Sy08Neutral.nats a) (Sy08Neutral.nats b) = 1
  | [], [], _, _, h, _ => absurd rfl h
  | [], _ :: _, _, _, _, h => by exact absurd h (fun h => nomatch h)
  | _ :: _, [], _, _, _, _ => rfl
  | a :: x, b :: y, ha, hb, hne, h => by
    have h1 := ha a (.head _)
    have h2 := hb b (.head _)
    show (if a.toNat < b.toNat then (-1 : Int) else if b.toNat < a.toNat then 1 else Sy08.order (Sy08Neutral.nats x) (Sy08Neutral.nats y)) = 1
    unfold before at h
    by_cases e : a = b
    · rw [if_pos e] at h
      rw [if_neg (by omega), if_neg (by omega)]
      exact order_after (fun z hz => ha z (.tail _ hz)) (fun z hz => hb z (.tail _ hz)) (fun e2 => hne (by rw [e, e2])) h
    · rw [if_neg e] at h
      have h3 := of_decide_eq_false h
      rw [if_neg (by omega), if_pos (by omega)]

theorem compare_eq {k : Int} {nss : List (List Int)} {c : Int} (h1 : Sy08Neutral.pieces (nss.take k.toNat) = some ((nss.take k.toNat).map Sy08Neutral.nats))
    (h2 : Sy08Neutral.pieces (nss.drop k.toNat) = some ((nss.drop k.toNat).map Sy08Neutral.nats)) (hc : c ≠ -2)
    (e : Sy08.order (Sy08Neutral.nats (nss.take k.toNat).flatten) (Sy08Neutral.nats (nss.drop k.toNat).flatten) = c) : PySy08.compare k nss = [c] := by
  show Sy08Neutral.told (Sy08.spec (.compare (Sy08Neutral.pieces (nss.take k.toNat)) (Sy08Neutral.pieces (nss.drop k.toNat)))) [] = [c]
  rw [h1, h2]
  show Sy08Neutral.told ⟨Sy08.order (Sy08.row ((nss.take k.toNat).map Sy08Neutral.nats)) (Sy08.row ((nss.drop k.toNat).map Sy08Neutral.nats)), []⟩ [] = [c]
  rw [m_flat, m_flat, e]
  exact m_told hc

/- sum -/

def evens : List Int → List Int
  | [] => []
  | [a] => [a]
  | a :: _ :: r => a :: evens r
def odds : List Int → List Int
  | [] => []
  | [_] => []
  | _ :: b :: r => b :: odds r

theorem pairs_eq : ∀ {l : List Int}, (∀ x ∈ l, 0 ≤ x) → ((Sy08.pairs (Sy08Neutral.nats l) : Nat) : Int) = 256 * (evens l).sum + (odds l).sum
  | [], _ => rfl
  | [a], h => by
    have h1 := h a (.head _)
    show ((256 * a.toNat : Nat) : Int) = 256 * (a + 0) + 0
    omega
  | a :: b :: r, h => by
    have h1 := h a (.head _)
    have h2 := h b (.tail _ (.head _))
    have ih := pairs_eq (l := r) fun x hx => h x (.tail _ (.tail _ hx))
    show ((256 * a.toNat + b.toNat + Sy08.pairs (Sy08Neutral.nats r) : Nat) : Int) = 256 * (a + (evens r).sum) + (b + (odds r).sum)
    omega

theorem sum_refused {nss : List (List Int)} (h : Sy08Neutral.pieces nss = none) : PySy08.sum_of nss = [-2] := by
  show Sy08Neutral.told (Sy08.spec (.sum (Sy08Neutral.pieces nss))) [] = [-2]
  rw [h]
  rfl

/-- a sum, and what it is folded to -/
def fold (s : Int) : Int := if s = 0 then 0 else (s - 1) % 65535 + 1

theorem fold_nat (s : Nat) : ((Sy08.folded s : Nat) : Int) = fold s := by
  unfold Sy08.folded fold
  by_cases h : s = 0
  · rw [if_pos h, if_pos (by omega)]
    rfl
  · rw [if_neg h, if_neg (by omega)]
    omega

theorem fold_turn {s t : Int} (h : 65535 < s) (e : t = s / 65536 + s % 65536) : fold t = fold s := by
  unfold fold
  rw [if_neg (by omega), if_neg (by omega)]
  omega

theorem fold_small {s : Int} (h0 : 0 ≤ s) (h : s ≤ 65535) : fold s = s := by
  unfold fold
  by_cases h : s = 0
  · rw [if_pos h, h]
  · rw [if_neg h]
    omega

theorem sum_good {nss : List (List Int)} (h : Sy08Neutral.pieces nss = some (nss.map Sy08Neutral.nats)) (hx : ∀ x ∈ nss.flatten, 0 ≤ x) :
    PySy08.sum_of nss = [fold (256 * (evens nss.flatten).sum + (odds nss.flatten).sum)] := by
  show Sy08Neutral.told (Sy08.spec (.sum (Sy08Neutral.pieces nss))) [] = _
  rw [h]
  show Sy08Neutral.told ⟨((Sy08.folded (Sy08.pairs (Sy08.row (nss.map Sy08Neutral.nats))) : Nat) : Int), []⟩ [] = _
  rw [m_flat, m_told (by omega), fold_nat, pairs_eq hx]
  rfl
end Ls
namespace Ls
open PySem PySem.W PySem.Calls PyProof.Rows PySem.Spec PySem.SeqAt PySem.MeetsSeq PySem.MeetsSeq3

/- two lists of whole numbers: which comes before -/

theorem before_same (n : Int) (x y : List Int) : before (n :: x) (n :: y) = before x y := by
  show (if n = n then before x y else _) = _
  rw [if_pos rfl]
theorem before_diff {n k : Int} (h : n ≠ k) (x y : List Int) : before (n :: x) (k :: y) = decide (n < k) := by
  show (if n = k then before x y else _) = _
  rw [if_neg h]
theorem before_end : ∀ {x y : List Int}, x = [] ∨ y = [] → before x y = decide (x.length < y.length)
  | [], [], _ => rfl
  | [], _ :: _, _ => by simp [before]
  | _ :: _, [], _ => by simp [before]
  | _ :: _, _ :: _, h => by rcases h with h | h <;> cases h

theorem lt_loop (l b : Addr) (vs us : List Value) (xs ys : List Int) (hx : IntsAre vs xs) (hy : IntsAre us ys) (n n2 : Nat) (dd dd2 : Option Addr) (sl sl2 : Array (Option Value)) (k : Nat) :
    ∀ i : Nat, min xs.length ys.length - i = k → i ≤ min xs.length ys.length → Meets (Builtin.«list.__eq__.loop» ⟨[.ref l, .ref b, rawInt i, rawInt 0], []⟩)
      (fun _ R s => s.heap.get? l = some { cls := .type "list", dict := dd, data := .seq vs.toArray n, slots := sl } ∧ s.heap.get? b = some { cls := .type "list", dict := dd2, data := .seq us.toArray n2, slots := sl2 } ∧
        R (.ok (.ret (.bool (before (xs.drop i) (ys.drop i))))) s) := by
  induction k with
  | zero =>
    intro i hk hle prog w A R s h
    obtain ⟨hp, g, d, tk, os⟩ := s; obtain ⟨hl, hb, h⟩ := h
    wp_walk using AutoSeq1.wpAny_loadPart' hl, AutoSeq1.wpAny_loadPart' hb
    have q1 := hx.length
    have q2 := hy.length
    have hend : before (xs.drop i) (ys.drop i) = decide (vs.toArray.size < us.toArray.size) := by
      rw [before_end, List.length_drop, List.length_drop, List.size_toArray, List.size_toArray, q1, q2]
      · exact decide_eq_decide.mpr (by omega)
      · by_cases hc : xs.length ≤ i
        · exact .inl (List.drop_eq_nil_of_le hc)
        · exact .inr (List.drop_eq_nil_of_le (by omega))
    rw [hend] at h
    by_cases hc : xs.length ≤ i
    · have hi1 : vs.toArray[((i : Nat) : Int).toNat]? = none := by simp; omega
      rw [hi1]
      cases hi2 : us.toArray[((i : Nat) : Int).toNat]? with
      | none =>
        wp_walk using AutoSeq1.wpAny_loadPart' hl, AutoSeq1.wpAny_loadPart' hb
        exact h
      | some v =>
        wp_walk using AutoSeq1.wpAny_loadPart' hl, AutoSeq1.wpAny_loadPart' hb
        exact h
    · have hi2 : us.toArray[((i : Nat) : Int).toNat]? = none := by simp; omega
      rw [hi2]
      cases hi1 : vs.toArray[((i : Nat) : Int).toNat]? with
      | none =>
        wp_walk using AutoSeq1.wpAny_loadPart' hl, AutoSeq1.wpAny_loadPart' hb
        exact h
      | some v =>
        wp_walk using AutoSeq1.wpAny_loadPart' hl, AutoSeq1.wpAny_loadPart' hb
        exact h
  | succ k ih =>
    intro i hk hle prog w A R s h
    obtain ⟨hp, g, d, tk, os⟩ := s; obtain ⟨hl, hb, h⟩ := h
    wp_walk using AutoSeq1.wpAny_loadPart' hl, AutoSeq1.wpAny_loadPart' hb
    have hlt : i < xs.length := by omega
    have hlt2 : i < ys.length := by omega
    obtain ⟨t, hv⟩ := hx.get i xs[i] (List.getElem?_eq_getElem hlt)
    obtain ⟨u, hu⟩ := hy.get i ys[i] (List.getElem?_eq_getElem hlt2)
    have hi1 : vs.toArray[((i : Nat) : Int).toNat]? = some (.int xs[i] t) := by simpa using hv
    have hi2 : us.toArray[((i : Nat) : Int).toNat]? = some (.int ys[i] u) := by simpa using hu
    have hd1 : xs.drop i = xs[i] :: xs.drop (i + 1) := List.drop_eq_getElem_cons hlt
    have hd2 : ys.drop i = ys[i] :: ys.drop (i + 1) := List.drop_eq_getElem_cons hlt2
    have hc : ((i : Int) + 1) = ((i + 1 : Nat) : Int) := by push_cast; rfl
    rw [hd1, hd2] at h
    rw [hi1, hi2]
    refine wpAny_bind (EqGives.int xs[i] ys[i] t u prog w _ _ _ _ ?_)
    by_cases he : xs[i] = ys[i]
    · rw [he] at h ⊢
      rw [before_same] at h
      rw [beq_self_eq_true]
      wp_walk
      rw [hc]
      exact ⟨plainId_quiet plain_eq_loop _, codeAny_builtin entry_eq_loop (by
        rw [Around.under_plainId plain_eq_loop _]
        exact ih (i + 1) (by omega) (by omega) prog w A R _ ⟨hl, hb, h⟩)⟩
    · rw [before_diff he] at h
      have hne : (xs[i] == ys[i]) = false := by simpa using he
      rw [hne]
      wp_walk using AutoSeq1.wpAny_loadPart' hl, AutoSeq1.wpAny_loadPart' hb
      rw [hi1, hi2]
      refine wpAny_bind (wpAny_lt_int ?_)
      wp_walk
      exact h

theorem list_lt (l b : Addr) (vs us : List Value) (xs ys : List Int) (hx : IntsAre vs xs) (hy : IntsAre us ys) (n n2 : Nat) (dd dd2 : Option Addr) (sl sl2 : Array (Option Value)) :
    Meets (Builtin.«list.__lt__» ⟨[.ref l, .ref b], []⟩)
      (fun _ R s => s.heap.get? l = some { cls := .type "list", dict := dd, data := .seq vs.toArray n, slots := sl } ∧ s.heap.get? b = some { cls := .type "list", dict := dd2, data := .seq us.toArray n2, slots := sl2 } ∧
        R (.ok (.ret (.bool (before xs ys)))) s) := by
  intro prog w A R s h
  obtain ⟨hp, g, d, tk, os⟩ := s; obtain ⟨hl, hb, h⟩ := h
  have f3 := AutoSeq1.sub_list_list
  wp_walk using AutoSeq1.wpAny_loadPart' hl, AutoSeq1.wpAny_loadPart' hb
  exact ⟨plainId_quiet plain_eq_loop _, codeAny_builtin entry_eq_loop (by
    rw [Around.under_plainId plain_eq_loop _]
    exact lt_loop l b vs us xs ys hx hy n n2 dd dd2 sl sl2 _ 0 rfl (Nat.zero_le _) prog w A R _ ⟨hl, hb, by simpa using h⟩)⟩

section
variable {prog : Program} {w : World} {A : Around} {E : Value → Shared → Prop} {s : Shared}
theorem lt_ints {a b : Addr} {vs us : List Value} {ns ms : List Int} {Q : Value → Shared → Prop} (hl : s.heap.IsList a vs.toArray) (hi : IntsAre vs ns) (hl' : s.heap.IsList b us.toArray) (hi' : IntsAre us ms) (hu : A.units < cLine)
    (h : Q (.bool (before ns ms)) s) : wpAny (model prog w) A (compareOp .Lt (.ref a) (.ref b)) Q E s := by
  obtain ⟨⟨cls, dd, data, sl⟩, ho, hc, n, hd⟩ := id hl
  obtain ⟨⟨cls2, dd2, data2, sl2⟩, ho2, hc2, n2, hd2⟩ := id hl'
  simp only at hc hd hc2 hd2
  subst hc hd hc2 hd2
  exact cmp_ofLt (richCompare_meets_room (op := .Lt) ⟨_, ho, rfl⟩ ⟨_, ho2, rfl⟩ PySem.F.slot_list_lt PySem.F.entry_list_lt (PySem.F.args_list_lt_2 _ _) (list_lt a b vs us ns ms hi hi' n n2 dd dd2 sl sl2)
    ⟨ho, ho2, show Value.bool (before ns ms) ≠ Value.notImplemented ∧ Q (.bool (before ns ms)) s from ⟨(fun x => nomatch x), h⟩⟩ hu)
end
end Ls
namespace Ls
open PySem PySem.W PySem.Calls PyProof.Rows PySem.Spec

/- lists that the call has made of lists that were handed in: a slice of them -/

theorem sit_take {h : Heap} : ∀ {vs : List Value} {nss : List (List Int)}, SitAll ObjKind.listI h vs nss → ∀ c : Nat, SitAll ObjKind.listI h (vs.take c) (nss.take c)
  | _, _, .nil, c => by
    rw [List.take_nil, List.take_nil]
    exact .nil
  | _, _, .cons _ _, 0 => by
    rw [List.take_zero, List.take_zero]
    exact .nil
  | _, _, .cons a r, c + 1 => by
    rw [List.take_succ_cons, List.take_succ_cons]
    exact .cons a (sit_take r c)
theorem sit_drop {h : Heap} : ∀ {vs : List Value} {nss : List (List Int)}, SitAll ObjKind.listI h vs nss → ∀ c : Nat, SitAll ObjKind.listI h (vs.drop c) (nss.drop c)
  | _, _, .nil, c => by
    rw [List.drop_nil, List.drop_nil]
    exact .nil
  | _, _, .cons a r, 0 => by
    rw [List.drop_zero, List.drop_zero]
    exact .cons a r
  | _, _, .cons _ r, c + 1 => by
    rw [List.drop_succ_cons, List.drop_succ_cons]
    exact sit_drop r c

/-- a part of the lists that were handed in: where its items stand, and how long they are -/
structure PartOf (h : Heap) (vs : List Value) (nss : List (List Int)) : Prop where
  sit : SitAll ObjKind.listI h vs nss
  fit : ∀ ns ∈ nss, ns.length ≤ 2 ^ 20
  all : nss.flatten.length ≤ 2 ^ 20

theorem flat_take (nss : List (List Int)) (c : Nat) : (nss.take c).flatten.length ≤ nss.flatten.length := by
  have e := congrArg (fun l : List (List Int) => l.flatten.length) (List.take_append_drop c nss)
  simp only [List.flatten_append, List.length_append] at e
  omega
theorem flat_drop (nss : List (List Int)) (c : Nat) : (nss.drop c).flatten.length ≤ nss.flatten.length := by
  have e := congrArg (fun l : List (List Int) => l.flatten.length) (List.take_append_drop c nss)
  simp only [List.flatten_append, List.length_append] at e
  omega

theorem part_take {h : Heap} {vs : List Value} {nss : List (List Int)} {as : List Addr} (hr : ReadsAll h vs (nss.map listDI) as) (hlay : PyData.layable0 (.list (nss.map listDI)) = true) (c : Nat) :
    PartOf h (vs.take c) (nss.take c) :=
  ⟨sit_take (readsAll_listsI hr) c, fun _ hn => fit_itemI hlay (List.mem_of_mem_take hn), Nat.le_trans (flat_take nss c) (flatten_fits hlay)⟩
theorem part_drop {h : Heap} {vs : List Value} {nss : List (List Int)} {as : List Addr} (hr : ReadsAll h vs (nss.map listDI) as) (hlay : PyData.layable0 (.list (nss.map listDI)) = true) (c : Nat) :
    PartOf h (vs.drop c) (nss.drop c) :=
  ⟨sit_drop (readsAll_listsI hr) c, fun _ hn => fit_itemI hlay (List.mem_of_mem_drop hn), Nat.le_trans (flat_drop nss c) (flatten_fits hlay)⟩

theorem lists_size {h : Heap} {vs : List Value} {nss : List (List Int)} {as : List Addr} (hr : ReadsAll h vs (nss.map listDI) as) (hlay : PyData.layable0 (.list (nss.map listDI)) = true) : vs.toArray.size ≤ sizeLine := by
  have line : (2 : Nat) ^ 20 ≤ sizeLine := by decide
  have e := (readsAll_listsI hr).length
  have q := PyData.length_le_weightAll (nss.map listDI)
  have h3 : PyData.weight (.list (nss.map listDI)) ≤ 2 ^ 20 := by
    unfold PyData.layable0 at hlay
    simp only [Bool.and_eq_true, decide_eq_true_eq] at hlay
    omega
  simp only [PyData.weight, List.length_map] at h3 q
  rw [List.size_toArray]
  omega

section
variable {prog : Program} {w : World} {A : Around} {E : Value → Shared → Prop} {s : Shared}
variable {env : Env} {h₀ : Heap} {x : Str} {body : List Stmt} {Q : Flow → Shared → Prop}

/-- a for over a list of the call's own, whatever it holds, which no turn changes -/
theorem iter_made {l : Addr} {vs : List Value} {nn : Nat} {m₀ : Str → Option Value} {news : List (Addr × Obj)}
    (J : Nat → (Str → Option Value) → List (Addr × Obj) → Prop) (hh : A.handled = none)
    (hl : (l, listOf vs.toArray nn) ∈ news) (stays : ∀ i m nx, J i m nx → (l, listOf vs.toArray nn) ∈ nx)
    (F : Fr h₀ env.locals s.heap m₀) (N : News h₀ env.locals s.heap news) (hj : J 0 m₀ news)
    (turn : ∀ i v m₁ news₁ h tk own, vs[i]? = some v → OwnOff own (news.map (·.1)) → J i m₁ news₁ →
      Fr h₀ env.locals h (fun y => if y = x then some v else m₁ y) → News h₀ env.locals h (news₁ ++ own) →
      wpAny (model prog w) A (execs body env)
        (InvPostN h₀ env.locals (J (i + 1)) own (news.map (·.1)) { s with heap := h, toks := tk } Q) E
        { s with heap := h, toks := tk })
    (done : ∀ m₁ news₁ h tk, J vs.length m₁ news₁ → Fr h₀ env.locals h m₁ → News h₀ env.locals h news₁ →
      Q .next { s with heap := h, toks := tk }) :
    wpAny (model prog w) A (pyIter (.ref l)) (fun it s₂ => LoopAtV prog w A h₀ env x body Q E it s₂) E s := by
  have mine : s.heap.get? l = some (listOf vs.toArray nn) := (N _ hl).1
  have here : s.heap.IsList l vs.toArray := ⟨_, mine, rfl, nn, rfl⟩
  have older : ∀ p ∈ news, p.1 ≠ s.heap.objs.size := fun p hp e => Nat.lt_irrefl _ (e ▸ Heap.lt_size (N p hp).1)
  refine wpAny_pyIter_list here ?_
  have Wk := Walks.list (prog := prog) (w := w) hh s.heap.objs.size l (older _ hl) vs.toArray
  rw [List.size_toArray] at Wk
  refine ⟨_, _, _, vs.length, _, _, m₀, news, (fun i m nx => nx.map (·.1) = news.map (·.1) ∧ J i m nx), rfl, Wk, ?_, ?_, ?_,
    ⟨⟨_, Heap.get?_push_size _ rfl, rfl, rfl⟩, here.at fun o e => Heap.get?_push_of_some _ e⟩, F.push _,
    fun p hp => ⟨Heap.get?_push_of_some _ (N p hp).1, (N p hp).2⟩, ⟨rfl, hj⟩, ?_, ?_⟩
  · intro bad
    rcases List.mem_cons.mp bad with e | bad
    · exact Nat.lt_irrefl _ (e ▸ F.ns.lt)
    · exact (N _ hl).2.1 (List.mem_singleton.mp bad).symm
  · intro b hb
    exact (List.mem_singleton.mp hb) ▸ next_is_new F
  · intro p hp bad
    exact older p hp (List.mem_singleton.mp bad)
  · rintro i v m₁ news₁ s₁ own ⟨h1, tk1, rfl⟩ hin hv ⟨hadr, hJ⟩ hoff hown hget _ _ F₁ N₁
    have still := stays _ _ _ hJ
    have far : OwnOff (own.filter fun p => decide (p.1 ≠ l)) (news.map (·.1)) := by
      intro p hp b hb e
      obtain ⟨q, hq, rfl⟩ := List.mem_map.mp hb
      obtain ⟨hp1, hp2⟩ := List.mem_filter.mp hp
      have ne := of_decide_eq_true hp2
      rcases List.mem_cons.mp (hown p hp1) with e1 | e1
      · exact older q hq (e ▸ e1)
      · exact ne (List.mem_singleton.mp e1)
    have N₂ : News h₀ env.locals h1 (news₁ ++ own.filter fun p => decide (p.1 ≠ l)) := by
      intro p hp
      rcases List.mem_append.mp hp with hp | hp
      · exact N₁ p (List.mem_append.mpr (.inr hp))
      · exact N₁ p (List.mem_append.mpr (.inl (List.mem_filter.mp hp).1))
    have hv' : vs[i]? = some v := by simpa using hv
    refine wpAny_mono (turn i v m₁ news₁ h1 tk1 _ hv' far hJ F₁ N₂) (fun f s₂ p => ?_) fun _ _ e => e
    have goes : InvEndN h₀ env.locals (J (i + 1)) (own.filter fun p => decide (p.1 ≠ l)) (news.map (·.1)) { s with heap := h1, toks := tk1 } s₂ →
        LoopStepU h₀ env.locals [s.heap.objs.size] own (fun m nx => nx.map (·.1) = news.map (·.1) ∧ J (i + 1) m nx) { s with heap := h1, toks := tk1 } .next s₂ := by
      rintro ⟨h2, tk2, m2, news2, nx, e2, F2, N2, in1, in2, adr2, hJ2⟩
      refine ⟨rfl, h2, tk2, m2, nx, e2, F2, ?_, ?_, adr2, hJ2⟩
      · intro p hp
        rcases List.mem_append.mp hp with hp | hp
        · by_cases el : p.1 = l
          · have g1 : h1.get? p.1 = some p.2 := hget p hp
            have g2 : h1.get? l = some (listOf vs.toArray nn) := (N₁ _ (List.mem_append.mpr (.inr still))).1
            rw [el, g2] at g1
            have e3 : p = (l, listOf vs.toArray nn) := Prod.ext el (Option.some.inj g1).symm
            rw [e3]
            exact N2 _ (in1 _ (stays _ _ _ hJ2))
          · exact N2 p (in2 p (List.mem_filter.mpr ⟨hp, decide_eq_true el⟩))
        · exact N2 p (in1 p hp)
      · intro p hp bad
        have a1 : p.1 ∈ nx.map (·.1) := List.mem_map.mpr ⟨p, hp, rfl⟩
        rw [adr2] at a1
        obtain ⟨q, hq, e4⟩ := List.mem_map.mp a1
        exact older q hq (e4.trans (List.mem_singleton.mp bad))
    cases f with
    | ret v => exact .ret p
    | brk => exact .brk p
    | next => exact .next (goes p)
    | cont => exact .cont (goes p)
  · rintro h2 tk2 m2 news2 F2 N2 _ ⟨_, hJ2⟩
    exact done m2 news2 h2 tk2 hJ2 F2 N2

/-- a search over a part of the lists that were handed in -/
theorem search_made {l : Addr} {vs : List Value} {nss : List (List Int)} {nn : Nat} {m₀ : Str → Option Value} {news : List (Addr × Obj)}
    (P : List (List Int) → Prop) (hh : A.handled = none)
    (F : Fr h₀ env.locals s.heap m₀) (N : News h₀ env.locals s.heap news)
    (hl : (l, listOf vs.toArray nn) ∈ news) (hr : PartOf h₀ vs nss) (hp : P [])
    (turn : ∀ pre ns post a us h tk own, nss = pre ++ ns :: post → h₀.IsList a us.toArray → IntsAre us ns → ns.length ≤ 2 ^ 20 → InItemTurn →
      OwnOff own (news.map (·.1)) → P pre →
      Fr h₀ env.locals h (fun y => if y = x then some (.ref a) else m₀ y) → News h₀ env.locals h (news ++ own) →
      wpAny (model prog w) A (execs body env)
        (InvPostN h₀ env.locals (Kept x m₀ news (P (pre ++ [ns]))) own (news.map (·.1)) { s with heap := h, toks := tk } Q) E
        { s with heap := h, toks := tk })
    (done : ∀ (u : Str → Option Value) h tk, P nss → Fr h₀ env.locals h (fun y => if y = x then u y else m₀ y) →
      News h₀ env.locals h news → Q .next { s with heap := h, toks := tk }) :
    wpAny (model prog w) A (pyIter (.ref l)) (fun it s₂ => LoopAtV prog w A h₀ env x body Q E it s₂) E s := by
  refine iter_made (fun i => Kept x m₀ news (P (nss.take i))) hh hl ?_ F N ⟨rfl, fun _ _ => rfl, by simpa using hp⟩ ?_ ?_
  · rintro i m nx ⟨rfl, _, _⟩
    exact hl
  · rintro i v m₁ news₁ h tk own hv hoff ⟨rfl, hm, hP⟩ F₁ N₁
    obtain ⟨ns, hns, a, us, rfl, hL, hI⟩ := hr.sit.get i v hv
    obtain ⟨e1, e2⟩ := split_at hns
    rw [map_off hm] at F₁
    rw [e1]
    exact turn _ ns _ a us h tk own e2 hL hI (hr.fit ns (List.mem_of_getElem? hns)) .mk hoff hP F₁ N₁
  · rintro m₁ news₁ h tk ⟨rfl, hm, hP⟩ F₁ N₁
    rw [hr.sit.length, List.take_length] at hP
    refine done m₁ h tk hP ?_ N₁
    have e : (fun y => if y = x then m₁ y else m₀ y) = m₁ := by
      funext y
      by_cases e : y = x
      · rw [if_pos e]
      · rw [if_neg e]
        exact (hm y e).symm
    rw [e]
    exact F₁

/-- for x in a part of the lists: a list of the call's own, empty ahead of the loop, grows by x -/
theorem extend_made {l d : Addr} {vs : List Value} {nss : List (List Int)} {nn k₀ : Nat} {m₀ : Str → Option Value} {rest : List (Addr × Obj)}
    (hh : A.handled = none) (F : Fr h₀ env.locals s.heap m₀) (N : News h₀ env.locals s.heap ((d, listOf #[] k₀) :: rest))
    (hl : (l, listOf vs.toArray nn) ∈ rest) (hr : PartOf h₀ vs nss)
    (turn : ∀ pre ns post a us ws k h tk own, nss = pre ++ ns :: post → h₀.IsList a ws.toArray → IntsAre ws ns → IntsAre us pre.flatten →
      us.length + ws.length ≤ 2 ^ 20 → OwnOff own (((d, listOf #[] k₀) :: rest).map (·.1)) →
      Fr h₀ env.locals h (fun y => if y = x then some (.ref a) else m₀ y) → News h₀ env.locals h ((d, listOf us.toArray k) :: (rest ++ own)) →
      wpAny (model prog w) A (execs body env)
        (InvPostN h₀ env.locals (Grown x m₀ d rest (pre ++ [ns]).flatten) own (((d, listOf #[] k₀) :: rest).map (·.1)) { s with heap := h, toks := tk } Q) E
        { s with heap := h, toks := tk })
    (done : ∀ (u : Str → Option Value) us k h tk, IntsAre us nss.flatten → nss.flatten.length ≤ 2 ^ 20 →
      Fr h₀ env.locals h (fun y => if y = x then u y else m₀ y) →
      News h₀ env.locals h ((d, listOf us.toArray k) :: rest) → Q .next { s with heap := h, toks := tk }) :
    wpAny (model prog w) A (pyIter (.ref l)) (fun it s₂ => LoopAtV prog w A h₀ env x body Q E it s₂) E s := by
  refine iter_made (fun i => Grown x m₀ d rest (nss.take i).flatten) hh (.tail _ hl) ?_ F N ⟨[], k₀, rfl, by simpa using IntsAre.nil, fun _ _ => rfl⟩ ?_ ?_
  · rintro i m nx ⟨us, k, rfl, _, _⟩
    exact .tail _ hl
  · rintro i v m₁ news₁ h tk own hv hoff ⟨us, k, rfl, hu, hm⟩ F₁ N₁
    obtain ⟨ns, hns, a, ws, rfl, hL, hI⟩ := hr.sit.get i v hv
    obtain ⟨e1, e2⟩ := split_at hns
    rw [map_off hm] at F₁
    rw [e1]
    refine turn _ ns _ a us ws k h tk own e2 hL hI hu ?_ hoff F₁ N₁
    have fit := hr.all
    rw [e2, List.flatten_append, List.flatten_cons, List.length_append, List.length_append] at fit
    have q1 := hu.length
    have q2 := hI.length
    omega
  · rintro m₁ news₁ h tk ⟨us, k, rfl, hu, hm⟩ F₁ N₁
    rw [hr.sit.length, List.take_length] at hu
    refine done m₁ us k h tk hu hr.all ?_ N₁
    have e : (fun y => if y = x then m₁ y else m₀ y) = m₁ := by
      funext y
      by_cases e : y = x
      · rw [if_pos e]
      · rw [if_neg e]
        exact (hm y e).symm
    rw [e]
    exact F₁
end

section
variable {prog : Program} {w : World} {A : Around} {E : Value → Shared → Prop} {s : Shared}
theorem len_part {h₀ : Heap} {L l : Addr} {vs : List Value} {nss : List (List Int)} {nn : Nat} {news : List (Addr × Obj)} {Q : Value → Shared → Prop}
    (N : News h₀ L s.heap news) (hl : (l, listOf vs.toArray nn) ∈ news) (hr : PartOf h₀ vs nss) (hz : vs.toArray.size ≤ sizeLine)
    (h : Q (.int (nss.length : Int) (s.toks + 1)) { s with toks := s.toks + 1 + 1 }) : wpAny (model prog w) A (call (.builtin "len") [.ref l]) Q E s := by
  have e : vs.toArray.size = nss.length := by
    rw [List.size_toArray]
    exact hr.sit.length
  have line : sizeLine < 2 ^ 63 := by decide
  refine len_list ⟨_, (N _ hl).1, rfl, nn, rfl⟩ (by omega) ?_
  rw [e]
  exact h
end
theorem size_take {h : Heap} {vs : List Value} {nss : List (List Int)} {as : List Addr} (hr : ReadsAll h vs (nss.map listDI) as) (hlay : PyData.layable0 (.list (nss.map listDI)) = true) (c : Nat) : (vs.take c).toArray.size ≤ sizeLine := by
  have q := lists_size hr hlay
  rw [List.size_toArray] at q ⊢
  rw [List.length_take]
  omega
theorem size_drop {h : Heap} {vs : List Value} {nss : List (List Int)} {as : List Addr} (hr : ReadsAll h vs (nss.map listDI) as) (hlay : PyData.layable0 (.list (nss.map listDI)) = true) (c : Nat) : (vs.drop c).toArray.size ≤ sizeLine := by
  have q := lists_size hr hlay
  rw [List.size_toArray] at q ⊢
  rw [List.length_drop]
  omega

theorem all_two {a b d : Addr} {o o2 : Obj} (h : a < d ∧ b < d) : ∀ p ∈ [(a, o), (b, o2)], p.1 < d := by
  intro p hp
  rcases List.mem_cons.mp hp with rfl | hp
  · exact h.1
  · rw [List.mem_singleton.mp hp]
    exact h.2
theorem all_three {a b c d : Addr} {o o2 o3 : Obj} (h : a < d ∧ b < d ∧ c < d) : ∀ p ∈ [(a, o), (b, o2), (c, o3)], p.1 < d := by
  intro p hp
  rcases List.mem_cons.mp hp with rfl | hp
  · exact h.1
  · exact all_two h.2 p hp

/- slices of a list, whatever it holds -/
section
variable {prog : Program} {w : World} {A : Around} {E : Value → Shared → Prop} {s : Shared} {h₀ : Heap} {L l : Addr} {m : Str → Option Value} {news : List (Addr × Obj)} {value slice : PySem.Expr} {vs : List Value} {Q : Value → Shared → Prop}

theorem pick_upto {y : Int} (h : 0 ≤ y) : slicePick vs.toArray none (some y) none = (vs.take y.toNat).toArray := by
  have e : sliceBounds none (some y) none vs.toArray.size = (((0 : Nat) : Int), ((min y.toNat vs.toArray.size : Nat) : Int), 1) := by
    simp only [sliceBounds, Option.getD_none, show (1 : Int) > 0 by decide, if_true, if_neg (show ¬ (y < 0) by omega)]
    congr 1
    congr 1
    omega
  rw [kmk_pick_nat _ e, List.drop_zero, Nat.sub_zero, List.size_toArray]
  show (vs.take (min y.toNat vs.length)).toArray = _
  rw [kmk_take_min]
theorem pick_from {y : Int} (h : 0 ≤ y) : slicePick vs.toArray (some y) none none = (vs.drop y.toNat).toArray := by
  have e : sliceBounds (some y) none none vs.toArray.size = (((min y.toNat vs.toArray.size : Nat) : Int), ((vs.toArray.size : Nat) : Int), 1) := by
    simp only [sliceBounds, Option.getD_none, show (1 : Int) > 0 by decide, if_true, if_neg (show ¬ (y < 0) by omega)]
    congr 1
    omega
  rw [kmk_pick_nat _ e, List.size_toArray]
  show ((vs.drop (min y.toNat vs.length)).take (vs.length - min y.toNat vs.length)).toArray = _
  rw [kmk_drop_min, List.take_of_length_le (by rw [List.length_drop]; omega)]

theorem slice_upto {y : Int} {t : Tok} (F : Fr h₀ L s.heap m) (N : News h₀ L s.heap news) (hl : s.heap.IsList l vs.toArray) (hy : 0 ≤ y)
    (h : ∀ D h', Fr h₀ L h' m → News h₀ L h' ((D, listOf (vs.take y.toNat).toArray 0) :: news) → (∀ p ∈ news, p.1 < D) → Q (.ref D) { s with heap := h' })
    (hs : subscripted slice false (.ref l) (.ref s.heap.objs.size) = operate [.ref s.heap.objs.size, .ref l] (getItem (.ref l) (.ref s.heap.objs.size))) (ht : ∀ r, letTemporaryGo value (.ref l) r = pure ()) (hz : vs.toArray.size ≤ sizeLine) :
    wpAny (model prog w) A (subscriptTail value slice (.ref l) (.ref s.heap.objs.size)) Q E { s with heap := s.heap.push { cls := .type "slice", data := .fields #[.none, .int y t, .none] } } := by
  refine kmk_slice F N hl .none (.int y t) (fun D h' F' N' l1 => h D h' F' ?_ l1) hs ht hz
  rw [pick_upto hy] at N'
  exact N'
theorem slice_from {y : Int} {t : Tok} (F : Fr h₀ L s.heap m) (N : News h₀ L s.heap news) (hl : s.heap.IsList l vs.toArray) (hy : 0 ≤ y)
    (h : ∀ D h', Fr h₀ L h' m → News h₀ L h' ((D, listOf (vs.drop y.toNat).toArray 0) :: news) → (∀ p ∈ news, p.1 < D) → Q (.ref D) { s with heap := h' })
    (hs : subscripted slice false (.ref l) (.ref s.heap.objs.size) = operate [.ref s.heap.objs.size, .ref l] (getItem (.ref l) (.ref s.heap.objs.size))) (ht : ∀ r, letTemporaryGo value (.ref l) r = pure ()) (hz : vs.toArray.size ≤ sizeLine) :
    wpAny (model prog w) A (subscriptTail value slice (.ref l) (.ref s.heap.objs.size)) Q E { s with heap := s.heap.push { cls := .type "slice", data := .fields #[.int y t, .none, .none] } } := by
  refine kmk_slice F N hl (.int y t) .none (fun D h' F' N' l1 => h D h' F' ?_ l1) hs ht hz
  rw [pick_from hy] at N'
  exact N'
end
end Ls
local macro_rules | `(tactic| walk_at "exec For Name Name") => `(tactic| (k_here; (first | (with_reducible show wpAny _ _ (exec (Stmt.For (Expr.Name _ _) (Expr.Name _ _) [Stmt.If _ _ _ _] [] _) _) _ _ _) | (with_reducible show wpAny _ _ (exec (Stmt.For (Expr.Name _ _) (Expr.Name _ _) [Stmt.Expr _ _] [] _) _) _ _ _)); (rename PyProof.Rows.Fr _ _ _ _ => lF'); (with_unfolding_all refine' PyProof.Rows.For_invVF lF' ?k1 ?k2 ?_; (case k1 => exact rfl); (case k2 => exact rfl); k_whole)))
local macro_rules | `(tactic| walk_at "pyIter ref") => `(tactic| ((with_reducible show wpAny _ _ (pyIter (Value.ref _)) (fun it s₂ => PyProof.Rows.LoopAtV _ _ _ _ _ _ [Stmt.If _ _ _ _] _ _ it s₂) _ _); k_here; (rename PyProof.Rows.Fr _ _ _ _ => lF'); (rename PyProof.Rows.News _ _ _ _ => lN'); (with_unfolding_all refine' Ls.search_lists Ls.Small (by rfl) lF' lN' (by assumption) (by assumption) (by assumption) Ls.small_nil (fun _ _ _ _ _ _ _ _ hEq' hL' hI' hfit' hIt' hoff' hP' F' N' => ?_) (fun _ _ _ hP' F' N' => ?_)); (all_goals (try clear lF' lN')); (all_goals (try k_fold))))
local macro_rules | `(tactic| walk_at "pyIter ref") => `(tactic| ((with_reducible show wpAny _ _ (pyIter (Value.ref _)) (fun it s₂ => PyProof.Rows.LoopAtV _ _ _ _ _ _ [Stmt.Expr _ _] _ _ it s₂) _ _); k_here; (rename PyProof.Rows.Fr _ _ _ _ => lF'); (rename PyProof.Rows.News _ _ _ _ => lN'); (with_unfolding_all refine' Ls.extend_lists (by rfl) lF' lN' (by assumption) (by assumption) (by assumption) (fun _ _ _ _ _ _ _ _ _ _ hEq' hL' hI' hU' hfit' hoff' F' N' => ?_) (fun _ _ _ _ _ hU' hfit' F' N' => ?_)); (all_goals (try clear lF' lN')); (all_goals (try k_fold))))
local macro_rules | `(tactic| walk_at "call builtin:list.extend") => `(tactic| (k_here; (with_reducible show wpAny _ _ (call (Value.builtin _) [Value.ref _, Value.ref _]) _ _ _); (rename PyProof.Rows.Fr _ _ _ _ => lF'); (rename PyProof.Rows.News _ _ _ _ => lN'); k_dflt (refine' Ls.extend_base lF' lN' (by first | exact Ls.off_rest (Ls.all_two (by assumption)) (by assumption) | exact Ls.off_rest (Ls.all_three (by assumption)) (by assumption)) (by assumption) (by assumption) ?_); clear lF' lN'; intro h' k' F' N'))
local macro_rules | `(tactic| walk_at "InvEndN") => `(tactic| ((with_reducible show InvEndN _ _ (Ls.Kept _ _ _ _) _ _ _ _); (rename PyProof.Rows.News _ _ _ _ => nE'); (refine Ls.kept_end (by assumption) nE' (by rfl) (by (intro z hz; simp only [if_neg hz])) ?_); exact Ls.small_snoc (by assumption) (by omega)))
local macro_rules | `(tactic| walk_at "InvEndN") => `(tactic| ((with_reducible show InvEndN _ _ (Ls.Grown _ _ _ _ _) _ _ _ _); (rename PyProof.Rows.News _ _ _ _ => nE'); (refine Ls.grown_end (by assumption) nE' (by assumption) (by assumption) (by (intro z hz; simp only [if_neg hz])))))
namespace Fin6
open PyProof.Rows
theorem said : PySem.Challenge.rw_piecerow_s06_compare.wellSaid = true := by decide +kernel
theorem req (a : Int) (nss : List (List Int)) : [WData.int a, ofPy (PyData.list (nss.map listDI))] =
    Codec.encAll PySem.Challenge.rw_piecerow_s06_compare.args ((a, nss, ()) : Int × List (List Int) × Unit) := by
  rw [Ls.ofPy_lists]
  rfl
theorem nonneg {a : Int} {nss : List (List Int)} (hpre : PySem.Challenge.rw_piecerow_s06_compare.pre [WData.int a, ofPy (PyData.list (nss.map listDI))] = true) :
    0 ≤ (if (nss.length : Int) < a then (nss.length : Int) else a) := by
  have h := (Ls.within_int (Ls.within_cons (Ls.pre_at said _ (req a nss) hpre)).1).1
  split <;> omega
theorem low {a : Int} {nss : List (List Int)} (hpre : PySem.Challenge.rw_piecerow_s06_compare.pre [WData.int a, ofPy (PyData.list (nss.map listDI))] = true) : 0 ≤ a :=
  (Ls.within_int (Ls.within_cons (Ls.pre_at said _ (req a nss) hpre)).1).1
theorem bytes {a : Int} {nss : List (List Int)} (hpre : PySem.Challenge.rw_piecerow_s06_compare.pre [WData.int a, ofPy (PyData.list (nss.map listDI))] = true) : ∀ x ∈ nss.flatten, 0 ≤ x := by
  have hw := Ls.pre_at said _ (req a nss) hpre
  obtain ⟨_, hw⟩ := Ls.within_cons hw
  obtain ⟨h2, _⟩ := Ls.within_cons hw
  exact Ls.flat_nonneg (Ls.within_lists h2).2
theorem cut_take {a : Int} {nss : List (List Int)} (h : 0 ≤ a) : nss.take (if (nss.length : Int) < a then (nss.length : Int) else a).toNat = nss.take a.toNat := by
  refine List.take_eq_take_iff.mpr ?_
  split <;> omega
theorem cut_drop {a : Int} {nss : List (List Int)} (h : 0 ≤ a) : nss.drop (if (nss.length : Int) < a then (nss.length : Int) else a).toNat = nss.drop a.toNat := by
  by_cases c : (nss.length : Int) < a
  · rw [if_pos c, List.drop_eq_nil_of_le (by omega), List.drop_eq_nil_of_le (by omega)]
  · rw [if_neg c]
theorem part_bytes {nss : List (List Int)} (h : ∀ x ∈ nss.flatten, 0 ≤ x) (k : Nat) : (∀ x ∈ (nss.take k).flatten, 0 ≤ x) ∧ ∀ x ∈ (nss.drop k).flatten, 0 ≤ x := by
  constructor
  · intro x hx
    obtain ⟨ns, h1, h2⟩ := List.mem_flatten.mp hx
    exact h x (List.mem_flatten.mpr ⟨ns, List.mem_of_mem_take h1, h2⟩)
  · intro x hx
    obtain ⟨ns, h1, h2⟩ := List.mem_flatten.mp hx
    exact h x (List.mem_flatten.mpr ⟨ns, List.mem_of_mem_drop h1, h2⟩)
theorem fin {a : Int} {nss : List (List Int)} {d : WData} {ys : List Int} (hpre : PySem.Challenge.rw_piecerow_s06_compare.pre [WData.int a, ofPy (PyData.list (nss.map listDI))] = true)
    (e : PySy08.compare a nss = ys) (hd : d = WData.list (ys.map WData.int)) : PySem.Challenge.rw_piecerow_s06_compare.post [WData.int a, ofPy (PyData.list (nss.map listDI))] d = true := by
  subst e
  exact Ls.post_at said _ (req a nss) (Ls.pre_at said _ (req a nss) hpre) hd
theorem many1 {a : Int} {nss : List (List Int)} (hpre : PySem.Challenge.rw_piecerow_s06_compare.pre [WData.int a, ofPy (PyData.list (nss.map listDI))] = true) (h : 16 < ((nss.take (if (nss.length : Int) < a then (nss.length : Int) else a).toNat).length : Int)) :
    PySem.Challenge.rw_piecerow_s06_compare.post [WData.int a, ofPy (PyData.list (nss.map listDI))] (ofPy (.list [PyData.int (-2)])) = true := by
  rw [cut_take (low hpre)] at h
  exact fin hpre (Ls.compare_left (Ls.pieces_many h)) (os_list rfl)
theorem long1 {a : Int} {nss pre post : List (List Int)} {ns : List Int} (hpre : PySem.Challenge.rw_piecerow_s06_compare.pre [WData.int a, ofPy (PyData.list (nss.map listDI))] = true)
    (e : nss.take (if (nss.length : Int) < a then (nss.length : Int) else a).toNat = pre ++ ns :: post) (h : 65536 < (ns.length : Int)) : PySem.Challenge.rw_piecerow_s06_compare.post [WData.int a, ofPy (PyData.list (nss.map listDI))] (ofPy (.list [PyData.int (-2)])) = true := by
  rw [cut_take (low hpre)] at e
  exact fin hpre (Ls.compare_left (e ▸ Ls.pieces_long h)) (os_list rfl)
theorem many2 {a : Int} {nss : List (List Int)} (hpre : PySem.Challenge.rw_piecerow_s06_compare.pre [WData.int a, ofPy (PyData.list (nss.map listDI))] = true) (h : 16 < ((nss.drop (if (nss.length : Int) < a then (nss.length : Int) else a).toNat).length : Int)) :
    PySem.Challenge.rw_piecerow_s06_compare.post [WData.int a, ofPy (PyData.list (nss.map listDI))] (ofPy (.list [PyData.int (-2)])) = true := by
  rw [cut_drop (low hpre)] at h
  exact fin hpre (Ls.compare_right (Ls.pieces_many h)) (os_list rfl)
theorem long2 {a : Int} {nss pre post : List (List Int)} {ns : List Int} (hpre : PySem.Challenge.rw_piecerow_s06_compare.pre [WData.int a, ofPy (PyData.list (nss.map listDI))] = true)
    (e : nss.drop (if (nss.length : Int) < a then (nss.length : Int) else a).toNat = pre ++ ns :: post) (h : 65536 < (ns.length : Int)) : PySem.Challenge.rw_piecerow_s06_compare.post [WData.int a, ofPy (PyData.list (nss.map listDI))] (ofPy (.list [PyData.int (-2)])) = true := by
  rw [cut_drop (low hpre)] at e
  exact fin hpre (Ls.compare_right (e ▸ Ls.pieces_long h)) (os_list rfl)
theorem good {a c : Int} {nss : List (List Int)} (hpre : PySem.Challenge.rw_piecerow_s06_compare.pre [WData.int a, ofPy (PyData.list (nss.map listDI))] = true)
    (h1 : ¬ 16 < ((nss.take (if (nss.length : Int) < a then (nss.length : Int) else a).toNat).length : Int)) (s1 : Ls.Small (nss.take (if (nss.length : Int) < a then (nss.length : Int) else a).toNat))
    (h2 : ¬ 16 < ((nss.drop (if (nss.length : Int) < a then (nss.length : Int) else a).toNat).length : Int)) (s2 : Ls.Small (nss.drop (if (nss.length : Int) < a then (nss.length : Int) else a).toNat))
    (hc : c ≠ -2) (e : Sy08.order (Sy08Neutral.nats (nss.take (if (nss.length : Int) < a then (nss.length : Int) else a).toNat).flatten) (Sy08Neutral.nats (nss.drop (if (nss.length : Int) < a then (nss.length : Int) else a).toNat).flatten) = c) :
    PySem.Challenge.rw_piecerow_s06_compare.post [WData.int a, ofPy (PyData.list (nss.map listDI))] (ofPy (.list [PyData.int c])) = true := by
  rw [cut_take (low hpre)] at h1 s1 e
  rw [cut_drop (low hpre)] at h2 s2 e
  exact fin hpre (Ls.compare_eq (Ls.pieces_good (by omega) s1) (Ls.pieces_good (by omega) s2) hc e) (os_list rfl)
theorem same {a : Int} {nss : List (List Int)} (hpre : PySem.Challenge.rw_piecerow_s06_compare.pre [WData.int a, ofPy (PyData.list (nss.map listDI))] = true)
    (h1 : ¬ 16 < ((nss.take (if (nss.length : Int) < a then (nss.length : Int) else a).toNat).length : Int)) (s1 : Ls.Small (nss.take (if (nss.length : Int) < a then (nss.length : Int) else a).toNat))
    (h2 : ¬ 16 < ((nss.drop (if (nss.length : Int) < a then (nss.length : Int) else a).toNat).length : Int)) (s2 : Ls.Small (nss.drop (if (nss.length : Int) < a then (nss.length : Int) else a).toNat))
    (e : (nss.take (if (nss.length : Int) < a then (nss.length : Int) else a).toNat).flatten = (nss.drop (if (nss.length : Int) < a then (nss.length : Int) else a).toNat).flatten) : PySem.Challenge.rw_piecerow_s06_compare.post [WData.int a, ofPy (PyData.list (nss.map listDI))] (ofPy (.list [PyData.int 0])) = true :=
  good hpre h1 s1 h2 s2 (by decide) (by rw [e]; exact Ls.order_same _)
theorem less {a : Int} {nss : List (List Int)} (hpre : PySem.Challenge.rw_piecerow_s06_compare.pre [WData.int a, ofPy (PyData.list (nss.map listDI))] = true)
    (h1 : ¬ 16 < ((nss.take (if (nss.length : Int) < a then (nss.length : Int) else a).toNat).length : Int)) (s1 : Ls.Small (nss.take (if (nss.length : Int) < a then (nss.length : Int) else a).toNat))
    (h2 : ¬ 16 < ((nss.drop (if (nss.length : Int) < a then (nss.length : Int) else a).toNat).length : Int)) (s2 : Ls.Small (nss.drop (if (nss.length : Int) < a then (nss.length : Int) else a).toNat))
    (e : Ls.before (nss.take (if (nss.length : Int) < a then (nss.length : Int) else a).toNat).flatten (nss.drop (if (nss.length : Int) < a then (nss.length : Int) else a).toNat).flatten = true) : PySem.Challenge.rw_piecerow_s06_compare.post [WData.int a, ofPy (PyData.list (nss.map listDI))] (ofPy (.list [PyData.int (-1)])) = true :=
  have b := part_bytes (bytes hpre) (if (nss.length : Int) < a then (nss.length : Int) else a).toNat
  good hpre h1 s1 h2 s2 (by decide) (Ls.order_before b.1 b.2 e)
theorem more {a : Int} {nss : List (List Int)} (hpre : PySem.Challenge.rw_piecerow_s06_compare.pre [WData.int a, ofPy (PyData.list (nss.map listDI))] = true)
    (h1 : ¬ 16 < ((nss.take (if (nss.length : Int) < a then (nss.length : Int) else a).toNat).length : Int)) (s1 : Ls.Small (nss.take (if (nss.length : Int) < a then (nss.length : Int) else a).toNat))
    (h2 : ¬ 16 < ((nss.drop (if (nss.length : Int) < a then (nss.length : Int) else a).toNat).length : Int)) (s2 : Ls.Small (nss.drop (if (nss.length : Int) < a then (nss.length : Int) else a).toNat))
    (ne : ¬ (nss.take (if (nss.length : Int) < a then (nss.length : Int) else a).toNat).flatten = (nss.drop (if (nss.length : Int) < a then (nss.length : Int) else a).toNat).flatten)
    (e : Ls.before (nss.take (if (nss.length : Int) < a then (nss.length : Int) else a).toNat).flatten (nss.drop (if (nss.length : Int) < a then (nss.length : Int) else a).toNat).flatten = false) : PySem.Challenge.rw_piecerow_s06_compare.post [WData.int a, ofPy (PyData.list (nss.map listDI))] (ofPy (.list [PyData.int 1])) = true :=
  have b := part_bytes (bytes hpre) (if (nss.length : Int) < a then (nss.length : Int) else a).toNat
  good hpre h1 s1 h2 s2 (by decide) (Ls.order_after b.1 b.2 ne e)
end Fin6
local macro_rules | `(tactic| walk_at "subscriptTail Name Slice ref ref") => `(tactic| (k_here; (with_reducible show wpAny _ _ (PyProof.Rows.subscriptTail _ (PySem.Expr.Slice none (some _) none _) (Value.ref _) (Value.ref _)) _ _ _); k_dflt (refine' Ls.slice_upto (by k_asm) (by k_asm) (by kmk_list) (by exact Fin6.nonneg (by assumption)) (fun D' h' F' N' l1 => ?_) (by with_unfolding_all rfl) (by kmk_pure) (by exact Ls.lists_size (by assumption) (by assumption))); (try k_lt l1); (try k_sweep)))
local macro_rules | `(tactic| walk_at "subscriptTail Name Slice ref ref") => `(tactic| (k_here; (with_reducible show wpAny _ _ (PyProof.Rows.subscriptTail _ (PySem.Expr.Slice (some _) none none _) (Value.ref _) (Value.ref _)) _ _ _); k_dflt (refine' Ls.slice_from (by k_asm) (by k_asm) (by kmk_list) (by exact Fin6.nonneg (by assumption)) (fun D' h' F' N' l1 => ?_) (by with_unfolding_all rfl) (by kmk_pure) (by exact Ls.lists_size (by assumption) (by assumption))); (try k_lt l1); (try k_sweep)))
local macro_rules | `(tactic| walk_at "pyIter ref") => `(tactic| ((with_reducible show wpAny _ _ (pyIter (Value.ref _)) (fun it s₂ => PyProof.Rows.LoopAtV _ _ _ _ _ _ [Stmt.If _ _ _ _] _ _ it s₂) _ _); k_here; (rename PyProof.Rows.Fr _ _ _ _ => lF'); (rename PyProof.Rows.News _ _ _ _ => lN'); (with_unfolding_all refine' Ls.search_made Ls.Small (by rfl) lF' lN' (by k_mem) (by first | exact Ls.part_take (by assumption) (by assumption) _ | exact Ls.part_drop (by assumption) (by assumption) _) Ls.small_nil (fun _ _ _ _ _ _ _ _ hEq' hL' hI' hfit' hIt' hoff' hP' F' N' => ?_) (fun _ _ _ hP' F' N' => ?_)); (all_goals (try clear lF' lN')); (all_goals (try k_fold))))
local macro_rules | `(tactic| walk_at "pyIter ref") => `(tactic| ((with_reducible show wpAny _ _ (pyIter (Value.ref _)) (fun it s₂ => PyProof.Rows.LoopAtV _ _ _ _ _ _ [Stmt.Expr _ _] _ _ it s₂) _ _); k_here; (rename PyProof.Rows.Fr _ _ _ _ => lF'); (rename PyProof.Rows.News _ _ _ _ => lN'); (with_unfolding_all refine' Ls.extend_made (by rfl) lF' lN' (by k_mem) (by first | exact Ls.part_take (by assumption) (by assumption) _ | exact Ls.part_drop (by assumption) (by assumption) _) (fun _ _ _ _ _ _ _ _ _ _ hEq' hL' hI' hU' hfit' hoff' F' N' => ?_) (fun _ _ _ _ _ hU' hfit' F' N' => ?_)); (all_goals (try clear lF' lN')); (all_goals (try k_fold))))
local macro_rules | `(tactic| walk_at "call builtin:len") => `(tactic| (k_here; (with_reducible show wpAny _ _ (call (Value.builtin _) [Value.ref _]) _ _ _); (rename PyProof.Rows.News _ _ _ _ => lN'); k_dflt (refine' Ls.len_part lN' (by k_mem) (by first | exact Ls.part_take (by assumption) (by assumption) _ | exact Ls.part_drop (by assumption) (by assumption) _) (by first | exact Ls.size_take (by assumption) (by assumption) _ | exact Ls.size_drop (by assumption) (by assumption) _) ?_)))
local macro_rules | `(tactic| walk_at "call ref") => `(tactic| (k_here; k_dflt (refine wpAny_call ?_; k_enter)))
local macro_rules | `(tactic| walk_at "compareOp Lt ref") => `(tactic| (k_here; (with_reducible show wpAny _ _ (compareOp CmpOp.Lt (Value.ref _) (Value.ref _)) _ _ _); k_dflt (refine' Ls.lt_ints (by is_list) (by l_ints) (by is_list) (by l_ints) (by units_room) ?_)))
local macro_rules | `(tactic| walk_at "compareOp Lt ref ref") => `(tactic| (k_here; (with_reducible show wpAny _ _ (compareOp CmpOp.Lt (Value.ref _) (Value.ref _)) _ _ _); k_dflt (refine' Ls.lt_ints (by is_list) (by l_ints) (by is_list) (by l_ints) (by units_room) ?_)))
set_option maxRecDepth 100000 in
set_option maxHeartbeats 8000000 in
theorem PySem.Challenge.cw_piecerow_s06_compare_holds : PySem.Challenge.rw_piecerow_s06_compare.Holds := by
  open_ks with [.int 0, .list []]
  · exact Fin6.many1 hpre (by assumption)
  · exact Fin6.long1 hpre (by assumption) (by assumption)
  · exact Fin6.many2 hpre (by assumption)
  · exact Fin6.long2 hpre (by assumption) (by assumption)
  · exact Fin6.same hpre (by assumption) (by assumption) (by assumption) (by assumption) (by assumption)
  · exact Fin6.less hpre (by assumption) (by assumption) (by assumption) (by assumption) (by assumption)
  · exact Fin6.more hpre (by assumption) (by assumption) (by assumption) (by assumption) (by assumption) (by assumption)
