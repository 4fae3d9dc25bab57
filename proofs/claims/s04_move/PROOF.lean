import PyProof.Rows.All
import KE.OsGo
import KE.OsEnd
import Open.SpecLaws
import PySem.Challenge.RW_piecerow_s04_move
open PySem PySem.W
set_option Elab.async false
namespace Ls
open PySem PySem.W PySem.Calls PyProof.Rows PySem.Spec

section
variable {prog : Program} {w : World} {A : Around} {E : Value → Shared → Prop} {s : Shared}
variable {env : Env} {h₀ : Heap} {x : Str} {body : List Stmt} {Q : Flow → Shared → Prop}

/-- a for over a list of lists of whole numbers, by an invariant of names and ledger -/
theorem iter_lists {l : Addr} {vs : List Value} {nss : List (List Int)} {m₀ : Str → Option Value} {news : List (Addr × Obj)}
    (J : Nat → (Str → Option Value) → List (Addr × Obj) → Prop) (hh : A.handled = none)
    (hl : h₀.IsList l vs.toArray) (hi : SitAll ObjKind.listI h₀ vs nss)
    (F : Fr h₀ env.locals s.heap m₀) (N : News h₀ env.locals s.heap news) (hj : J 0 m₀ news)
    (turn : ∀ i ns a us m₁ news₁ h tk own, nss[i]? = some ns → h₀.IsList a us.toArray → IntsAre us ns →
      news₁.map (·.1) = news.map (·.1) → OwnOff own (news.map (·.1)) → J i m₁ news₁ →
      Fr h₀ env.locals h (fun y => if y = x then some (.ref a) else m₁ y) → News h₀ env.locals h (news₁ ++ own) →
      wpAny (model prog w) A (execs body env)
        (InvPostN h₀ env.locals (J (i + 1)) own (news.map (·.1)) { s with heap := h, toks := tk } Q) E
        { s with heap := h, toks := tk })
    (done : ∀ m₁ news₁ h tk, J nss.length m₁ news₁ → Fr h₀ env.locals h m₁ → News h₀ env.locals h news₁ →
      Q .next { s with heap := h, toks := tk }) :
    wpAny (model prog w) A (pyIter (.ref l)) (fun it s₂ => LoopAtV prog w A h₀ env x body Q E it s₂) E s := by
  have here : s.heap.IsList l vs.toArray := hl.at fun o e => F.keep l o e
  obtain ⟨ol, hol, _⟩ := id hl
  have low : l < h₀.objs.size := Heap.lt_size hol
  have apart : l ≠ s.heap.objs.size := Nat.ne_of_lt (Nat.lt_trans (Nat.lt_of_lt_of_le low F.above) F.ns.lt)
  have size : vs.toArray.size = nss.length := by rw [List.size_toArray]; exact hi.length
  refine wpAny_pyIter_list here ?_
  have Wk := Walks.list (prog := prog) (w := w) hh s.heap.objs.size l apart vs.toArray
  rw [size] at Wk
  refine loop_invN J Wk ?_ ?_ ?_ ?_ ?_ (F.push _) ?_ hj ?_ ?_
  · intro bad
    rcases List.mem_cons.mp bad with e | bad
    · exact Nat.lt_irrefl _ (e ▸ F.ns.lt)
    · have e := List.mem_singleton.mp bad
      exact Nat.lt_irrefl _ (e ▸ Nat.lt_of_lt_of_le low F.above)
  · intro b hb
    have e := List.mem_singleton.mp hb
    exact e ▸ next_is_new F
  · intro p hp bad
    have e := List.mem_singleton.mp bad
    exact Nat.lt_irrefl _ (e ▸ Heap.lt_size (N p hp).1)
  · intro p hp bad
    rcases List.mem_cons.mp bad with e | bad
    · exact Nat.lt_irrefl _ (e ▸ Heap.lt_size (N p hp).1)
    · have e := List.mem_singleton.mp bad
      have fresh := (N p hp).2.2
      rw [e, hol] at fresh
      cases fresh
  · exact ⟨⟨_, Heap.get?_push_size _ rfl, rfl, rfl⟩, here.at fun o e => Heap.get?_push_of_some _ e⟩
  · exact fun p hp => ⟨Heap.get?_push_of_some _ (N p hp).1, (N p hp).2⟩
  · intro i v m₁ news₁ h tk own _ hv hadr hoff hJ F₁ N₁
    have hv' : vs[i]? = some v := by simpa using hv
    obtain ⟨ns, hns, a, us, rfl, hL, hI⟩ := hi.get i v hv'
    exact turn i ns a us m₁ news₁ h tk own hns hL hI hadr hoff hJ F₁ N₁
  · exact done

/-- what holds between two turns of a loop that stores nothing -/
def Kept (x : Str) (m₀ : Str → Option Value) (news : List (Addr × Obj)) (P : Prop) (m : Str → Option Value) (nx : List (Addr × Obj)) : Prop :=
  nx = news ∧ (∀ z, z ≠ x → m z = m₀ z) ∧ P

theorem map_off {x : Str} {m m₀ : Str → Option Value} {v : Option Value} (h : ∀ z, z ≠ x → m z = m₀ z) :
    (fun y => if y = x then v else m y) = fun y => if y = x then v else m₀ y := by
  funext y
  by_cases e : y = x
  · rw [if_pos e, if_pos e]
  · rw [if_neg e, if_neg e]
    exact h y e

theorem split_at {α : Type} {l : List α} {i : Nat} {a : α} (h : l[i]? = some a) :
    l.take (i + 1) = l.take i ++ [a] ∧ l = l.take i ++ a :: l.drop (i + 1) := by
  have h1 : l.take (i + 1) = l.take i ++ [a] := by simp [List.take_add_one, h]
  refine ⟨h1, ?_⟩
  have h2 := List.take_append_drop (i + 1) l
  rw [h1, List.append_assoc] at h2
  exact h2.symm

/-- a search over a list of lists: it stores nothing, a turn may leave -/
theorem search_lists {l : Addr} {vs : List Value} {nss : List (List Int)} {as : List Addr} {m₀ : Str → Option Value} {news : List (Addr × Obj)}
    (P : List (List Int) → Prop) (hh : A.handled = none)
    (F : Fr h₀ env.locals s.heap m₀) (N : News h₀ env.locals s.heap news)
    (hl : h₀.IsList l vs.toArray) (hr : ReadsAll h₀ vs (nss.map listDI) as)
    (hlay : PyData.layable0 (.list (nss.map listDI)) = true) (hp : P [])
    (turn : ∀ pre ns post a us h tk own, nss = pre ++ ns :: post → h₀.IsList a us.toArray → IntsAre us ns → ns.length ≤ 2 ^ 20 → InItemTurn →
      OwnOff own (news.map (·.1)) → P pre →
      Fr h₀ env.locals h (fun y => if y = x then some (.ref a) else m₀ y) → News h₀ env.locals h (news ++ own) →
      wpAny (model prog w) A (execs body env)
        (InvPostN h₀ env.locals (Kept x m₀ news (P (pre ++ [ns]))) own (news.map (·.1)) { s with heap := h, toks := tk } Q) E
        { s with heap := h, toks := tk })
    (done : ∀ (u : Str → Option Value) h tk, P nss → Fr h₀ env.locals h (fun y => if y = x then u y else m₀ y) →
      News h₀ env.locals h news → Q .next { s with heap := h, toks := tk }) :
    wpAny (model prog w) A (pyIter (.ref l)) (fun it s₂ => LoopAtV prog w A h₀ env x body Q E it s₂) E s := by
  refine iter_lists (fun i => Kept x m₀ news (P (nss.take i))) hh hl (readsAll_listsI hr) F N ⟨rfl, fun _ _ => rfl, by simpa using hp⟩ ?_ ?_
  · rintro i ns a us m₁ news₁ h tk own hns hL hI _ hoff ⟨rfl, hm, hP⟩ F₁ N₁
    obtain ⟨e1, e2⟩ := split_at hns
    rw [map_off hm] at F₁
    rw [e1]
    exact turn _ ns _ a us h tk own e2 hL hI (fit_itemI hlay (List.mem_of_getElem? hns)) .mk hoff hP F₁ N₁
  · rintro m₁ news₁ h tk ⟨rfl, hm, hP⟩ F₁ N₁
    rw [List.take_length] at hP
    refine done m₁ h tk hP ?_ N₁
    have e : (fun y => if y = x then m₁ y else m₀ y) = m₁ := by
      funext y
      by_cases e : y = x
      · rw [if_pos e]
      · rw [if_neg e]
        exact (hm y e).symm
    rw [e]
    exact F₁

theorem kept_end {L : Addr} {m₀ m' : Str → Option Value} {news news' own : List (Addr × Obj)} {P : Prop} {s₁ : Shared} {h' : Heap} {tk : Nat}
    (F : Fr h₀ L h' m') (N : News h₀ L h' news') (hn : news' = news ++ own) (hm : ∀ z, z ≠ x → m' z = m₀ z) (hp : P) :
    InvEndN h₀ L (Kept x m₀ news P) own (news.map (·.1)) s₁ { s₁ with heap := h', toks := tk } := by
  subst hn
  exact InvEndN.intro F N ⟨rfl, hm, hp⟩ rfl (fun p hp => List.mem_append.mpr (.inl hp)) (fun p hp => List.mem_append.mpr (.inr hp))
end
end Ls
namespace Ls
open PySem PySem.W PySem.Calls PyProof.Rows PySem.Spec

/- the request, read -/

theorem encAll_inj : ∀ (cs : List Codec), cs.all Codec.ok = true → ∀ a b : Codec.denoteAll cs, Codec.encAll cs a = Codec.encAll cs b → a = b
  | [], _, _, _, _ => rfl
  | c :: cs, k, a, b, h => by
    have k1 : c.ok = true ∧ cs.all Codec.ok = true := by
      have k2 : (c.ok && cs.all Codec.ok) = true := k
      exact Bool.and_eq_true_iff.mp k2
    have h1 : c.enc a.1 :: Codec.encAll cs a.2 = c.enc b.1 :: Codec.encAll cs b.2 := h
    injection h1 with h2 h3
    have e1 := Codec.enc_inj c k1.1 a.1 b.1 h2
    have e2 := encAll_inj cs k1.2 a.2 b.2 h3
    exact Prod.ext e1 e2

theorem pre_at {r : OpenSpec} (said : r.wellSaid = true) (a : Codec.denoteAll r.args) {as : List WData} (e : as = Codec.encAll r.args a)
    (h : r.pre as = true) : Codec.withinAll r.args a = true := by
  obtain ⟨b, hb, _, eb⟩ := (OpenSpec.pre_iff said as).mp h
  have e2 : a = b := encAll_inj r.args (Codec.ok_all r.args (OpenSpec.fits_of said)) a b (e.symm.trans eb)
  exact e2 ▸ hb

theorem post_at {r : OpenSpec} (said : r.wellSaid = true) (a : Codec.denoteAll r.args) {as : List WData} (e : as = Codec.encAll r.args a)
    (h : Codec.withinAll r.args a = true) {d : WData} (hd : d = r.ret.enc (Codec.app r.args r.f a)) : r.post as d = true := by
  subst e
  exact (OpenSpec.post_iff said h d []).mpr hd

theorem ofPy_ints (ns : List Int) : ofPy (listDI ns) = WData.list (ns.map WData.int) := os_list rfl

theorem ofPys_lists : ∀ nss : List (List Int), ofPys (nss.map listDI) = nss.map fun ns => WData.list (ns.map WData.int)
  | [] => by simp [ofPys]
  | ns :: r => by
    rw [List.map_cons, List.map_cons, ← ofPys_lists r, ← ofPy_ints ns]
    simp [ofPys]

theorem ofPy_lists (nss : List (List Int)) : ofPy (PyData.list (nss.map listDI)) = WData.list (nss.map fun ns => WData.list (ns.map WData.int)) := by
  rw [← ofPys_lists]
  simp [ofPy]

theorem ans_list {ds : List PyData} {ys : List Int} {lo hi : Int} {least most : Nat} (h : ds = ys.map PyData.int) :
    ofPy (.list ds) = (Codec.list least most (.int lo hi)).enc ys := os_list h

theorem within_lists {nss : List (List Int)} {a b c d : Nat} {lo hi : Int}
    (h : (Codec.list a b (.list c d (.int lo hi))).within nss = true) :
    nss.length ≤ b ∧ ∀ ns ∈ nss, ns.length ≤ d ∧ ∀ x ∈ ns, lo ≤ x ∧ x ≤ hi := by
  have h1 : (Codec.inNat a b nss.length && nss.all fun ns => (Codec.inNat c d ns.length && ns.all (Codec.inInt lo hi))) = true := h
  rw [Bool.and_eq_true_iff] at h1
  refine ⟨(Codec.inNat_iff.mp h1.1).2, fun ns hns => ?_⟩
  have h2 := List.all_eq_true.mp h1.2 ns hns
  rw [Bool.and_eq_true_iff] at h2
  exact ⟨(Codec.inNat_iff.mp h2.1).2, fun x hx => Codec.inInt_iff.mp (List.all_eq_true.mp h2.2 x hx)⟩

/- the specification, for pieces that are refused and for others -/

structure Small (nss : List (List Int)) : Prop where
  all : ∀ ns ∈ nss, ns.length ≤ 65536

theorem small_nil : Small [] := ⟨fun _ h => nomatch h⟩
theorem small_snoc {pre : List (List Int)} {ns : List Int} (h : Small pre) (hn : (ns.length : Int) ≤ 65536) : Small (pre ++ [ns]) := by
  refine ⟨fun ms hm => ?_⟩
  rcases List.mem_append.mp hm with hm | hm
  · exact h.all ms hm
  · rw [List.mem_singleton.mp hm]
    omega

theorem pieces_many {nss : List (List Int)} (h : 16 < (nss.length : Int)) : Sy08Neutral.pieces nss = none := by
  unfold Sy08Neutral.pieces
  refine if_neg ?_
  intro hc
  have h1 := (Bool.and_eq_true_iff.mp hc).1
  have h2 : nss.length ≤ 16 := of_decide_eq_true h1
  omega

theorem pieces_long {pre post : List (List Int)} {ns : List Int} (h : 65536 < (ns.length : Int)) : Sy08Neutral.pieces (pre ++ ns :: post) = none := by
  unfold Sy08Neutral.pieces
  refine if_neg ?_
  intro hc
  have h1 := List.all_eq_true.mp (Bool.and_eq_true_iff.mp hc).2 ns (List.mem_append.mpr (.inr (.head _)))
  have h2 : ns.length ≤ 65536 := of_decide_eq_true h1
  omega

theorem pieces_good {nss : List (List Int)} (h : (nss.length : Int) ≤ 16) (hs : Small nss) : Sy08Neutral.pieces nss = some (nss.map Sy08Neutral.nats) := by
  unfold Sy08Neutral.pieces
  refine if_pos ?_
  rw [Bool.and_eq_true_iff]
  refine ⟨decide_eq_true (by show nss.length ≤ 16; omega), ?_⟩
  refine List.all_eq_true.mpr fun ns hns => decide_eq_true (hs.all ns hns)

theorem nats_flatten (nss : List (List Int)) : Sy08.row (nss.map Sy08Neutral.nats) = Sy08Neutral.nats nss.flatten := by
  unfold Sy08.row Sy08Neutral.nats
  exact (List.map_flatten).symm

theorem length_refused {nss : List (List Int)} (h : Sy08Neutral.pieces nss = none) : PySy08.length nss = [-2] := by
  show Sy08Neutral.told (Sy08.spec (.length (Sy08Neutral.pieces nss))) [] = [-2]
  rw [h]
  rfl

theorem length_good {nss : List (List Int)} (h : Sy08Neutral.pieces nss = some (nss.map Sy08Neutral.nats)) : PySy08.length nss = [(nss.flatten.length : Int)] := by
  show Sy08Neutral.told (Sy08.spec (.length (Sy08Neutral.pieces nss))) [] = _
  rw [h]
  show Sy08Neutral.told ⟨((Sy08.row (nss.map Sy08Neutral.nats)).length : Int), []⟩ [] = _
  rw [nats_flatten]
  unfold Sy08Neutral.told Sy08Neutral.nats
  rw [List.length_map]
  refine if_neg ?_
  show ¬ ((nss.flatten.length : Int) = -2)
  omega

theorem fold_lengths : ∀ (nss : List (List Int)) (z : Int × Unit),
    (nss.foldl (fun (σ : Int × Unit) (a : List Int) => (σ.fst + (a.length : Int), ())) z).fst = z.fst + (nss.flatten.length : Int)
  | [], z => by simp
  | ns :: r, z => by
    rw [List.foldl_cons, fold_lengths r, List.flatten_cons, List.length_append]
    show z.fst + (ns.length : Int) + _ = _
    omega
end Ls
namespace Ls
open PySem PySem.W PySem.Calls PyProof.Rows PySem.Spec

/-- extend by a list that the call has not made -/
theorem meets_extend (l b : Addr) (xs ys : Array Value) (n k : Nat) (dy : Option Addr) (sl : Array (Option Value))
    (door : ¬(!xs.isEmpty && Builtin.List.listTooLong (xs.size + ys.size)) = true) (z1 : xs.size ≤ sizeLine) (z2 : xs.size + ys.size ≤ sizeLine + 1) :
    Meets (Builtin.«list.extend» ⟨[.ref l, .ref b], []⟩) (fun _ R s =>
      s.heap.get? l = some { cls := .type "list", dict := none, data := .seq xs n, slots := #[] } ∧
      s.heap.get? b = some { cls := .type "list", dict := dy, data := .seq ys k, slots := sl } ∧
      R (.ok (.ret Value.none)) { s with heap := s.heap.update l (Obj.mapSeq fun x => x ++ ys), toks := s.toks }) :=
  .of_wp fun prog w A R s h => by
    obtain ⟨hp, g, d, tk, os⟩ := s
    obtain ⟨hl, hb, h⟩ := h
    have g1 := AutoSeq1.idx_int
    have g2 := AutoSeq1.sub_tuple_tuple
    have g3 := AutoSeq1.sub_list_list
    have g4 := AutoSeq1.sub_tuple_list
    have g5 := AutoSeq1.sub_list_tuple
    have z3 : (xs ++ ys).size ≤ sizeLine + 1 := by
      rw [Array.size_append]
      exact z2
    wp_walk using (wpAny_updateSeq hl rfl (hz := z1) (_hz' := z3)), AutoSeq1.wpAny_loadPart' hl, AutoSeq1.wpAny_loadPart' hb
    exact ⟨_, rfl, h⟩

section
variable {prog : Program} {w : World} {A : Around} {E : Value → Shared → Prop} {s : Shared}
variable {h₀ : Heap} {L : Addr} {m : Str → Option Value}

theorem extend_base {D b : Addr} {us ws : List Value} {n : Nat} {own : List (Addr × Obj)} {Q : Value → Shared → Prop}
    (F : Fr h₀ L s.heap m) (N : News h₀ L s.heap ((D, listOf us.toArray n) :: own)) (off : ∀ p ∈ own, p.1 ≠ D)
    (hb : h₀.IsList b ws.toArray) (room : us.length + ws.length ≤ 2 ^ 20)
    (h : ∀ h' k, Fr h₀ L h' m → News h₀ L h' ((D, listOf (us ++ ws).toArray k) :: own) → Q .none { s with heap := h' }) :
    wpAny (model prog w) A (call (.builtin "list.extend") [.ref D, .ref b]) Q E s := by
  have mine := N _ (List.Mem.head _)
  obtain ⟨⟨c, dy, dt, sl⟩, ho, hc, k, hdt⟩ := hb
  have e1 : c = .type "list" := hc
  have e2 : dt = .seq ws.toArray k := hdt
  subst e1
  subst e2
  have line : (2 : Nat) ^ 20 ≤ sizeLine := by decide
  have fits : us.toArray.size + ws.toArray.size ≤ sizeLine := by
    rw [List.size_toArray, List.size_toArray]
    omega
  refine call_meets PySem.F.slot_list_extend ⟨_, mine.1, rfl⟩ PySem.F.entry_list_extend (PySem.F.args_list_extend_2 _ _)
    (meets_extend D b us.toArray ws.toArray n k dy sl (extend_door fits) (Nat.le_trans (Nat.le_add_right _ _) fits) (by omega))
    ⟨mine.1, F.keep _ _ ho, ?_⟩
  have e : us.toArray ++ ws.toArray = (us ++ ws).toArray := by simp
  have now : (s.heap.update D (Obj.mapSeq fun x => x ++ ws.toArray)).get? D =
      some (listOf (us ++ ws).toArray (if (us.toArray ++ ws.toArray).size == us.toArray.size then n else n + 1)) := by
    rw [Heap.get?_update_self _ mine.1 (by rw [mapSeq_app]; rfl), mapSeq_app, e]
  have N' := news_set (pre := []) N (fun _ hp => nomatch hp) off (Heap.SameBut.update ..) now
  exact h _ _ (F.change (Heap.SameBut.update ..) mine.2.1 mine.2.2) N'
end

section
variable {prog : Program} {w : World} {A : Around} {E : Value → Shared → Prop} {s : Shared}
variable {env : Env} {h₀ : Heap} {x : Str} {body : List Stmt} {Q : Flow → Shared → Prop}

/-- one list of the call's own grows, all else stays -/
def Grown (x : Str) (m₀ : Str → Option Value) (d : Addr) (rest : List (Addr × Obj)) (ns : List Int) (m : Str → Option Value) (nx : List (Addr × Obj)) : Prop :=
  ∃ us k, nx = (d, listOf us.toArray k) :: rest ∧ IntsAre us ns ∧ ∀ z, z ≠ x → m z = m₀ z

theorem flatten_fits {nss : List (List Int)} (h : PyData.layable0 (.list (nss.map listDI)) = true) : nss.flatten.length ≤ 2 ^ 20 := by
  have aux : ∀ l : List (List Int), l.flatten.length ≤ PyData.weightAll (l.map listDI) := by
    intro l
    induction l with
    | nil => simp
    | cons ns r ih =>
      have h2 := PyData.length_le_weightAll (ns.map PyData.int)
      rw [List.length_map] at h2
      rw [List.flatten_cons, List.length_append, List.map_cons]
      simp only [PyData.weightAll, listDI, PyData.weight] at ih ⊢
      omega
  have h1 := aux nss
  have h3 : PyData.weight (.list (nss.map listDI)) ≤ 2 ^ 20 := by
    unfold PyData.layable0 at h
    simp only [Bool.and_eq_true, decide_eq_true_eq] at h
    omega
  simp only [PyData.weight] at h3
  omega

/-- for x in lists: some list of the call's own, empty ahead of the loop, grows by x -/
theorem extend_lists {l d : Addr} {vs : List Value} {nss : List (List Int)} {as : List Addr} {k₀ : Nat} {m₀ : Str → Option Value} {rest : List (Addr × Obj)}
    (hh : A.handled = none) (F : Fr h₀ env.locals s.heap m₀) (N : News h₀ env.locals s.heap ((d, listOf #[] k₀) :: rest))
    (hl : h₀.IsList l vs.toArray) (hr : ReadsAll h₀ vs (nss.map listDI) as)
    (hlay : PyData.layable0 (.list (nss.map listDI)) = true)
    (turn : ∀ pre ns post a us ws k h tk own, nss = pre ++ ns :: post → h₀.IsList a ws.toArray → IntsAre ws ns → IntsAre us pre.flatten →
      us.length + ws.length ≤ 2 ^ 20 → OwnOff own (((d, listOf #[] k₀) :: rest).map (·.1)) →
      Fr h₀ env.locals h (fun y => if y = x then some (.ref a) else m₀ y) → News h₀ env.locals h ((d, listOf us.toArray k) :: (rest ++ own)) →
      wpAny (model prog w) A (execs body env)
        (InvPostN h₀ env.locals (Grown x m₀ d rest (pre ++ [ns]).flatten) own (((d, listOf #[] k₀) :: rest).map (·.1)) { s with heap := h, toks := tk } Q) E
        { s with heap := h, toks := tk })
    (done : ∀ (u : Str → Option Value) us k h tk, IntsAre us nss.flatten → nss.flatten.length ≤ 2 ^ 20 →
      Fr h₀ env.locals h (fun y => if y = x then u y else m₀ y) →
      News h₀ env.locals h ((d, listOf us.toArray k) :: rest) → Q .next { s with heap := h, toks := tk }) :
    wpAny (model prog w) A (pyIter (.ref l)) (fun it s₂ => LoopAtV prog w A h₀ env x body Q E it s₂) E s := by
  refine iter_lists (fun i => Grown x m₀ d rest (nss.take i).flatten) hh hl (readsAll_listsI hr) F N ⟨[], k₀, rfl, by simpa using IntsAre.nil, fun _ _ => rfl⟩ ?_ ?_
  · rintro i ns a ws m₁ news₁ h tk own hns hL hI _ hoff ⟨us, k, rfl, hu, hm⟩ F₁ N₁
    obtain ⟨e1, e2⟩ := split_at hns
    rw [map_off hm] at F₁
    rw [e1]
    refine turn _ ns _ a us ws k h tk own e2 hL hI hu ?_ hoff F₁ N₁
    have fit := flatten_fits hlay
    rw [e2, List.flatten_append, List.flatten_cons, List.length_append, List.length_append] at fit
    have q1 := hu.length
    have q2 := hI.length
    omega
  · rintro m₁ news₁ h tk ⟨us, k, rfl, hu, hm⟩ F₁ N₁
    rw [List.take_length] at hu
    refine done m₁ us k h tk hu (flatten_fits hlay) ?_ N₁
    have e : (fun y => if y = x then m₁ y else m₀ y) = m₁ := by
      funext y
      by_cases e : y = x
      · rw [if_pos e]
      · rw [if_neg e]
        exact (hm y e).symm
    rw [e]
    exact F₁

theorem off_rest {d : Addr} {o : Obj} {rest own : List (Addr × Obj)} (h1 : ∀ p ∈ rest, p.1 < d) (h2 : OwnOff own (((d, o) :: rest).map (·.1))) :
    ∀ p ∈ rest ++ own, p.1 ≠ d := by
  intro p hp
  rcases List.mem_append.mp hp with hp | hp
  · exact Nat.ne_of_lt (h1 p hp)
  · exact h2 p hp d (List.Mem.head _)

theorem grown_end {L d : Addr} {m₀ m' : Str → Option Value} {rest own : List (Addr × Obj)} {us ws : List Value} {pre : List (List Int)} {ns : List Int}
    {k k₀ tk : Nat} {s₁ : Shared} {h' : Heap} (F : Fr h₀ L h' m') (N : News h₀ L h' ((d, listOf (us ++ ws).toArray k) :: (rest ++ own)))
    (hu : IntsAre us pre.flatten) (hw : IntsAre ws ns) (hm : ∀ z, z ≠ x → m' z = m₀ z) :
    InvEndN h₀ L (Grown x m₀ d rest (pre ++ [ns]).flatten) own (((d, listOf #[] k₀) :: rest).map (·.1)) s₁ { s₁ with heap := h', toks := tk } := by
  refine InvEndN.intro F N ⟨us ++ ws, k, rfl, ?_, hm⟩ rfl ?_ ?_
  · rw [List.flatten_append]
    have e : [ns].flatten = ns := by simp
    rw [e]
    exact hu.append hw
  · intro p hp
    rcases List.mem_cons.mp hp with rfl | hp
    · exact .head _
    · exact .tail _ (List.mem_append.mpr (.inl hp))
  · intro p hp
    exact .tail _ (List.mem_append.mpr (.inr hp))
end
end Ls
namespace Ls
open PySem PySem.W PySem.Calls PyProof.Rows PySem.Spec

theorem told_row {c : Int} {o : List Nat} {l : List Nat} (h : c ≠ -2) : Sy08Neutral.told ⟨c, o⟩ l = c :: l.map fun (n : Nat) => (n : Int) := by
  unfold Sy08Neutral.told
  exact if_neg h

theorem nats_back : ∀ {l : List Int}, (∀ x ∈ l, 0 ≤ x) → ((Sy08Neutral.nats l).map fun (n : Nat) => (n : Int)) = l
  | [], _ => rfl
  | x :: r, h => by
    have h1 := h x (.head _)
    have h2 := nats_back (l := r) fun y hy => h y (.tail _ hy)
    unfold Sy08Neutral.nats at h2 ⊢
    rw [List.map_cons, List.map_cons, h2]
    have e : ((x.toNat : Nat) : Int) = x := by omega
    rw [e]

theorem nats_drop (l : List Int) (k : Nat) : (Sy08Neutral.nats l).drop k = Sy08Neutral.nats (l.drop k) := by
  unfold Sy08Neutral.nats
  exact List.map_drop.symm
theorem nats_take (l : List Int) (k : Nat) : (Sy08Neutral.nats l).take k = Sy08Neutral.nats (l.take k) := by
  unfold Sy08Neutral.nats
  exact List.map_take.symm
theorem nats_length (l : List Int) : (Sy08Neutral.nats l).length = l.length := List.length_map ..

theorem flat_nonneg {nss : List (List Int)} {d : Nat} {hi : Int} (h : ∀ ns ∈ nss, ns.length ≤ d ∧ ∀ x ∈ ns, 0 ≤ x ∧ x ≤ hi) : ∀ x ∈ nss.flatten, 0 ≤ x := by
  intro x hx
  obtain ⟨ns, hns, hxn⟩ := List.mem_flatten.mp hx
  exact ((h ns hns).2 x hxn).1

theorem take_refused {b n : Int} {nss : List (List Int)} (h : Sy08Neutral.pieces nss = none) : PySy08.take b n nss = [-2] := by
  show Sy08Neutral.told (Sy08.spec (.take (Sy08Neutral.pieces nss) b.toNat n.toNat)) _ = [-2]
  rw [h]
  rfl

theorem take_good {b n : Int} {nss : List (List Int)} (h : Sy08Neutral.pieces nss = some (nss.map Sy08Neutral.nats)) (hx : ∀ x ∈ nss.flatten, 0 ≤ x) :
    PySy08.take b n nss = (((nss.flatten.drop b.toNat).take n.toNat).length : Int) :: (nss.flatten.drop b.toNat).take n.toNat := by
  show (let x := Sy08.spec (.take (Sy08Neutral.pieces nss) b.toNat n.toNat); Sy08Neutral.told x x.out) = _
  rw [h]
  show Sy08Neutral.told ⟨((((Sy08.row (nss.map Sy08Neutral.nats)).drop b.toNat).take n.toNat).length : Int), ((Sy08.row (nss.map Sy08Neutral.nats)).drop b.toNat).take n.toNat⟩
    (((Sy08.row (nss.map Sy08Neutral.nats)).drop b.toNat).take n.toNat) = _
  rw [nats_flatten, nats_drop, nats_take, nats_length, told_row (by omega)]
  rw [nats_back]
  intro x hm
  exact hx x (List.mem_of_mem_drop (List.mem_of_mem_take hm))

theorem cut (fl : List Int) {b n S T : Int} (hb : 0 ≤ b) (hn : 0 ≤ n) (hS : S = if (fl.length : Int) < b + n then (fl.length : Int) else b + n)
    (hT : T = if S < b then S else b) : (fl.drop T.toNat).take (min S.toNat fl.length - T.toNat) = (fl.drop b.toNat).take n.toNat := by
  by_cases h1 : S < b
  · rw [if_pos h1] at hT
    have h2 : S = (fl.length : Int) := by
      split at hS <;> omega
    have e1 : min S.toNat fl.length - T.toNat = 0 := by omega
    have e2 : fl.drop b.toNat = [] := List.drop_eq_nil_of_le (by omega)
    rw [e1, e2, List.take_zero, List.take_nil]
  · rw [if_neg h1] at hT
    subst hT
    refine List.take_eq_take_iff.mpr ?_
    rw [List.length_drop]
    split at hS <;> omega

theorem stop_not {fl : List Int} {b n : Int} (hb : 0 ≤ b) (hn : 0 ≤ n) (h : (if (fl.length : Int) < b + n then (fl.length : Int) else b + n) < 0) : False := by
  split at h <;> omega
theorem start_not {fl : List Int} {b n S : Int} (hb : 0 ≤ b) (hn : 0 ≤ n) (hS : S = if (fl.length : Int) < b + n then (fl.length : Int) else b + n)
    (h : (if S < b then S else b) < 0) : False := by
  have h1 : ¬ S < 0 := by
    intro h2
    rw [hS] at h2
    exact stop_not hb hn h2
  split at h <;> omega

theorem within_int {lo hi k : Int} (h : (Codec.int lo hi).within k = true) : lo ≤ k ∧ k ≤ hi := Codec.inInt_iff.mp h
theorem within_ints {c d : Nat} {lo hi : Int} {g : List Int} (h : (Codec.list c d (.int lo hi)).within g = true) : g.length ≤ d ∧ ∀ x ∈ g, lo ≤ x ∧ x ≤ hi := by
  have h1 : (Codec.inNat c d g.length && g.all (Codec.inInt lo hi)) = true := h
  rw [Bool.and_eq_true_iff] at h1
  exact ⟨(Codec.inNat_iff.mp h1.1).2, fun x hx => Codec.inInt_iff.mp (List.all_eq_true.mp h1.2 x hx)⟩
theorem within_cons {c : Codec} {cs : List Codec} {a : c.denote} {r : Codec.denoteAll cs} (h : Codec.withinAll (c :: cs) (a, r) = true) :
    c.within a = true ∧ Codec.withinAll cs r = true := by
  have h1 : (c.within a && Codec.withinAll cs r) = true := h
  exact Bool.and_eq_true_iff.mp h1
end Ls
namespace Ls

/- put and move -/

theorem m_told {c : Int} {o : List Nat} {l : List Nat} (h : c ≠ -2) : Sy08Neutral.told ⟨c, o⟩ l = c :: l.map fun (n : Nat) => (n : Int) := by
  unfold Sy08Neutral.told
  exact if_neg h

theorem m_back : ∀ {l : List Int}, (∀ x ∈ l, 0 ≤ x) → ((Sy08Neutral.nats l).map fun (n : Nat) => (n : Int)) = l
  | [], _ => rfl
  | x :: r, h => by
    have h1 := h x (.head _)
    have h2 := m_back (l := r) fun y hy => h y (.tail _ hy)
    unfold Sy08Neutral.nats at h2 ⊢
    rw [List.map_cons, List.map_cons, h2]
    have e : ((x.toNat : Nat) : Int) = x := by omega
    rw [e]
theorem m_drop (l : List Int) (k : Nat) : (Sy08Neutral.nats l).drop k = Sy08Neutral.nats (l.drop k) := by
  unfold Sy08Neutral.nats
  exact List.map_drop.symm
theorem m_take (l : List Int) (k : Nat) : (Sy08Neutral.nats l).take k = Sy08Neutral.nats (l.take k) := by
  unfold Sy08Neutral.nats
  exact List.map_take.symm
theorem m_app (l r : List Int) : Sy08Neutral.nats l ++ Sy08Neutral.nats r = Sy08Neutral.nats (l ++ r) := by
  unfold Sy08Neutral.nats
  exact List.map_append.symm
theorem m_len (l : List Int) : (Sy08Neutral.nats l).length = l.length := List.length_map ..
theorem m_flat (nss : List (List Int)) : Sy08.row (nss.map Sy08Neutral.nats) = Sy08Neutral.nats nss.flatten := by
  unfold Sy08.row Sy08Neutral.nats
  exact (List.map_flatten).symm

theorem m_laid (b : List Nat) (k : Nat) (x : List Nat) : Sy08Neutral.laid b k x = b.take k ++ (x ++ b.drop (k + x.length)) := by
  unfold Sy08Neutral.laid
  by_cases h : x = []
  · rw [if_pos h, h]
    simp
  · rw [if_neg h]

/-- what is put at a place of a row -/
def laidI (fl : List Int) (k : Nat) (x : List Int) : List Int := fl.take k ++ (x ++ fl.drop (k + x.length))

theorem m_laidI {fl x : List Int} {k : Nat} (h : ∀ y ∈ fl, 0 ≤ y) (hx : ∀ y ∈ x, 0 ≤ y) :
    ((Sy08Neutral.laid (Sy08Neutral.nats fl) k (Sy08Neutral.nats x)).map fun (n : Nat) => (n : Int)) = laidI fl k x := by
  rw [m_laid, m_len, m_take, m_drop, m_app, m_app, m_back]
  · rfl
  · intro y hy
    rcases List.mem_append.mp hy with hy | hy
    · exact h y (List.mem_of_mem_take hy)
    · rcases List.mem_append.mp hy with hy | hy
      · exact hx y hy
      · exact h y (List.mem_of_mem_drop hy)

theorem put_refused {a : Int} {g : List Int} {nss : List (List Int)} (h : Sy08Neutral.pieces nss = none) : PySy08.put a g nss = [-2] := by
  show (let x := Sy08.spec (.put ((Sy08Neutral.pieces nss).map fun (y : List Sy08.Bytes) => y.map fun (z : Sy08.Bytes) => z.length) a.toNat (Sy08Neutral.nats g) g.length)
    Sy08Neutral.told x (Sy08Neutral.laid (Sy08Neutral.nats nss.flatten) a.toNat x.out)) = [-2]
  rw [h]
  rfl

theorem sum_lens : ∀ nss : List (List Int), ((nss.map Sy08Neutral.nats).map fun (z : Sy08.Bytes) => z.length).sum = nss.flatten.length
  | [] => rfl
  | ns :: r => by
    rw [List.map_cons, List.map_cons, List.sum_cons, sum_lens r, m_len, List.flatten_cons, List.length_append]

theorem put_good {a : Int} {g : List Int} {nss : List (List Int)} (h : Sy08Neutral.pieces nss = some (nss.map Sy08Neutral.nats)) (hx : ∀ x ∈ nss.flatten, 0 ≤ x)
    (hg : ∀ x ∈ g, 0 ≤ x) (hl : g.length ≤ 66000) :
    PySy08.put a g nss = ((g.take (nss.flatten.length - a.toNat)).length : Int) :: laidI nss.flatten a.toNat (g.take (nss.flatten.length - a.toNat)) := by
  show (let x := Sy08.spec (.put ((Sy08Neutral.pieces nss).map fun (y : List Sy08.Bytes) => y.map fun (z : Sy08.Bytes) => z.length) a.toNat (Sy08Neutral.nats g) g.length)
    Sy08Neutral.told x (Sy08Neutral.laid (Sy08Neutral.nats nss.flatten) a.toNat x.out)) = _
  rw [h]
  have e : Sy08.spec (.put ((some (nss.map Sy08Neutral.nats)).map fun (y : List Sy08.Bytes) => y.map fun (z : Sy08.Bytes) => z.length) a.toNat (Sy08Neutral.nats g) g.length) =
      ⟨((g.take (nss.flatten.length - a.toNat)).length : Int), Sy08Neutral.nats (g.take (nss.flatten.length - a.toNat))⟩ := by
    show (if g.length ≤ Sy08.PUT then _ else _) = _
    rw [if_pos (by unfold Sy08.PUT; omega), sum_lens, m_take, m_len]
  rw [e]
  show Sy08Neutral.told ⟨_, _⟩ (Sy08Neutral.laid (Sy08Neutral.nats nss.flatten) a.toNat (Sy08Neutral.nats (g.take (nss.flatten.length - a.toNat)))) = _
  rw [m_told (by omega), m_laidI hx fun y hy => hg y (List.mem_of_mem_take hy)]

theorem move_refused {a b n : Int} {nss : List (List Int)} (h : Sy08Neutral.pieces nss = none) : PySy08.move a b n nss = [-2] := by
  show (let x := Sy08.spec (.move (Sy08Neutral.pieces nss) a.toNat b.toNat n.toNat)
    Sy08Neutral.told x (Sy08Neutral.laid (Sy08Neutral.nats nss.flatten) b.toNat x.out)) = [-2]
  rw [h]
  rfl

theorem move_good {a b n : Int} {nss : List (List Int)} (h : Sy08Neutral.pieces nss = some (nss.map Sy08Neutral.nats)) (hx : ∀ x ∈ nss.flatten, 0 ≤ x) :
    PySy08.move a b n nss = ((Sy08.span nss.flatten.length a.toNat b.toNat n.toNat : Nat) : Int) ::
      laidI nss.flatten b.toNat ((nss.flatten.drop a.toNat).take (Sy08.span nss.flatten.length a.toNat b.toNat n.toNat)) := by
  show (let x := Sy08.spec (.move (Sy08Neutral.pieces nss) a.toNat b.toNat n.toNat)
    Sy08Neutral.told x (Sy08Neutral.laid (Sy08Neutral.nats nss.flatten) b.toNat x.out)) = _
  rw [h]
  have e : Sy08.spec (.move (some (nss.map Sy08Neutral.nats)) a.toNat b.toNat n.toNat) =
      ⟨((Sy08.span nss.flatten.length a.toNat b.toNat n.toNat : Nat) : Int), Sy08Neutral.nats ((nss.flatten.drop a.toNat).take (Sy08.span nss.flatten.length a.toNat b.toNat n.toNat))⟩ := by
    show (⟨(Sy08.span (Sy08.row (nss.map Sy08Neutral.nats)).length a.toNat b.toNat n.toNat : Nat), ((Sy08.row (nss.map Sy08Neutral.nats)).drop a.toNat).take (Sy08.span (Sy08.row (nss.map Sy08Neutral.nats)).length a.toNat b.toNat n.toNat)⟩ : Sy08.Ans) = _
    rw [m_flat, m_len, m_drop, m_take]
  rw [e]
  show Sy08Neutral.told ⟨_, _⟩ (Sy08Neutral.laid (Sy08Neutral.nats nss.flatten) b.toNat (Sy08Neutral.nats _)) = _
  rw [m_told (by omega), m_laidI hx fun y hy => hx y (List.mem_of_mem_drop (List.mem_of_mem_take hy))]

/- find -/

theorem find_refused {a : Int} {w : List Int} {nss : List (List Int)} (h : Sy08Neutral.pieces nss = none) : PySy08.find a w nss = [-2] := by
  show Sy08Neutral.told (if 1 ≤ w.length ∧ w.length ≤ 64 then Sy08.withRow (Sy08Neutral.pieces nss) _ else Sy08.refused) [] = [-2]
  rw [h]
  split <;> rfl

theorem find_word {a : Int} {w : List Int} {nss : List (List Int)} (h : ¬ (1 ≤ w.length ∧ w.length ≤ 64)) : PySy08.find a w nss = [-2] := by
  show Sy08Neutral.told (if 1 ≤ w.length ∧ w.length ≤ 64 then Sy08.withRow (Sy08Neutral.pieces nss) _ else Sy08.refused) [] = [-2]
  rw [if_neg h]
  rfl

/-- a word stands at a place of a row -/
def Stands (fl w : List Int) (q : Nat) : Prop := (fl.drop q).take w.length = w

theorem nats_inj : ∀ {a b : List Int}, (∀ x ∈ a, 0 ≤ x) → (∀ x ∈ b, 0 ≤ x) → Sy08Neutral.nats a = Sy08Neutral.nats b → a = b := by
  intro a b ha hb h
  rw [← m_back ha, ← m_back hb, h]

theorem stands_iff {fl w : List Int} {q : Nat} (hf : ∀ x ∈ fl, 0 ≤ x) (hw : ∀ x ∈ w, 0 ≤ x) :
    Sy08.standsAt (Sy08Neutral.nats fl) (Sy08Neutral.nats w) q = true ↔ Stands fl w q := by
  unfold Sy08.standsAt Stands
  rw [List.isPrefixOf_iff_prefix, List.prefix_iff_eq_take, m_drop, m_len, m_take]
  constructor
  · intro h
    exact (nats_inj hw (fun x hx => hf x (List.mem_of_mem_drop (List.mem_of_mem_take hx))) h).symm
  · intro h
    rw [h]

theorem stands_room {fl w : List Int} {q : Nat} (h : Stands fl w q) : w.length ≤ fl.length - q := by
  unfold Stands at h
  have h2 := congrArg List.length h
  rw [List.length_take, List.length_drop] at h2
  omega

theorem range_find_none {n : Nat} {p : Nat → Bool} (h : ∀ q, q < n → p q = false) : (List.range n).find? p = none := by
  rw [List.find?_eq_none]
  intro x hx
  rw [h x (List.mem_range.mp hx)]
  exact Bool.false_ne_true

theorem range_find_some {n k : Nat} {p : Nat → Bool} (hk : k < n) (h : ∀ q, q < k → p q = false) (hp : p k = true) : (List.range n).find? p = some k := by
  have e : List.range n = List.range k ++ (k :: (List.range (n - k - 1)).map (fun i => k + 1 + i)) := by
    have e1 : n = k + (1 + (n - k - 1)) := by omega
    rw [e1, List.range_add, List.range_add]
    have e2 : k + (1 + (n - k - 1)) - k - 1 = n - k - 1 := by omega
    rw [e2]
    simp [Nat.add_assoc]
  rw [e, List.find?_append, range_find_none h, List.find?_cons_of_pos hp]
  rfl

theorem find_eq {a : Int} {w : List Int} {nss : List (List Int)} (h : Sy08Neutral.pieces nss = some (nss.map Sy08Neutral.nats)) (h1 : 1 ≤ w.length) (h2 : w.length ≤ 64) :
    PySy08.find a w nss = Sy08Neutral.told (match Sy08.findFrom (Sy08Neutral.nats nss.flatten) (Sy08Neutral.nats w) a.toNat with
      | some p => ⟨p, []⟩
      | none => ⟨-1, []⟩) [] := by
  show Sy08Neutral.told (if 1 ≤ w.length ∧ w.length ≤ 64 then Sy08.withRow (Sy08Neutral.pieces nss) _ else Sy08.refused) [] = _
  rw [if_pos ⟨h1, h2⟩, h]
  show Sy08Neutral.told (match Sy08.findFrom (Sy08.row (nss.map Sy08Neutral.nats)) (Sy08Neutral.nats w) a.toNat with
      | some p => ⟨p, []⟩
      | none => ⟨-1, []⟩) [] = _
  rw [m_flat]

theorem find_there {a : Int} {w : List Int} {nss : List (List Int)} {k : Nat} (h : Sy08Neutral.pieces nss = some (nss.map Sy08Neutral.nats)) (h1 : 1 ≤ w.length) (h2 : w.length ≤ 64)
    (hf : ∀ x ∈ nss.flatten, 0 ≤ x) (hw : ∀ x ∈ w, 0 ≤ x) (ha : a.toNat ≤ k) (hs : Stands nss.flatten w k) (hn : ∀ q : Nat, a.toNat ≤ q → q < k → ¬ Stands nss.flatten w q) :
    PySy08.find a w nss = [(k : Int)] := by
  rw [find_eq h h1 h2]
  have e : Sy08.findFrom (Sy08Neutral.nats nss.flatten) (Sy08Neutral.nats w) a.toNat = some k := by
    unfold Sy08.findFrom
    have hr := stands_room hs
    refine range_find_some (by rw [m_len]; omega) ?_ ?_
    · intro q hq
      by_cases hq2 : a.toNat ≤ q
      · have h3 : ¬ Sy08.standsAt (Sy08Neutral.nats nss.flatten) (Sy08Neutral.nats w) q = true := fun h4 => hn q hq2 hq ((stands_iff hf hw).mp h4)
        simp only [Bool.not_eq_true] at h3
        rw [h3, Bool.and_false]
      · rw [decide_eq_false hq2, Bool.false_and]
    · rw [decide_eq_true ha, (stands_iff hf hw).mpr hs]
      rfl
  rw [e]
  exact m_told (by omega)

theorem find_nowhere {a : Int} {w : List Int} {nss : List (List Int)} (h : Sy08Neutral.pieces nss = some (nss.map Sy08Neutral.nats)) (h1 : 1 ≤ w.length) (h2 : w.length ≤ 64)
    (hf : ∀ x ∈ nss.flatten, 0 ≤ x) (hw : ∀ x ∈ w, 0 ≤ x) (hn : ∀ q : Nat, a.toNat ≤ q → q + w.length ≤ nss.flatten.length → ¬ Stands nss.flatten w q) :
    PySy08.find a w nss = [-1] := by
  rw [find_eq h h1 h2]
  have e : Sy08.findFrom (Sy08Neutral.nats nss.flatten) (Sy08Neutral.nats w) a.toNat = none := by
    unfold Sy08.findFrom
    refine range_find_none ?_
    intro q hq
    by_cases hq2 : a.toNat ≤ q
    · have h3 : ¬ Sy08.standsAt (Sy08Neutral.nats nss.flatten) (Sy08Neutral.nats w) q = true := by
        intro h4
        have h5 := (stands_iff hf hw).mp h4
        have h6 := stands_room h5
        exact hn q hq2 (by omega) h5
      simp only [Bool.not_eq_true] at h3
      rw [h3, Bool.and_false]
    · rw [decide_eq_false hq2, Bool.false_and]
  rw [e]
  exact m_told (by omega)

/- compare -/

theorem compare_left {k : Int} {nss : List (List Int)} (h : Sy08Neutral.pieces (nss.take k.toNat) = none) : PySy08.compare k nss = [-2] := by
  show Sy08Neutral.told (Sy08.spec (.compare (Sy08Neutral.pieces (nss.take k.toNat)) (Sy08Neutral.pieces (nss.drop k.toNat)))) [] = [-2]
  rw [h]
  rfl
theorem compare_right {k : Int} {nss : List (List Int)} (h : Sy08Neutral.pieces (nss.drop k.toNat) = none) : PySy08.compare k nss = [-2] := by
  show Sy08Neutral.told (Sy08.spec (.compare (Sy08Neutral.pieces (nss.take k.toNat)) (Sy08Neutral.pieces (nss.drop k.toNat)))) [] = [-2]
  rw [h]
  cases Sy08Neutral.pieces (nss.take k.toNat) <;> rfl

/-- one row comes before another -/
def before : List Int → List Int → Bool
  | [], [] => false
  | [], _ :: _ => true
  | _ :: _, [] => false
  | a :: x, b :: y => if a = b then before x y else decide (a < b)

theorem order_same : ∀ a : List Nat, Sy08.order a a = 0
  | [] => rfl
  | a :: r => by
    unfold Sy08.order
    rw [if_neg (by omega), if_neg (by omega), order_same r]

theorem order_before : ∀ {a b : List Int}, (∀ x ∈ a, 0 ≤ x) → (∀ x ∈ b, 0 ≤ x) → before a b = true → Sy08.order (Sy08Neutral.nats a) (Sy08Neutral.nats b) = -1
  | [], [], _, _, h => by exact absurd h Bool.false_ne_true
  | [], _ :: _, _, _, _ => rfl
  | _ :: _, [], _, _, h => by exact absurd h Bool.false_ne_true
  | a :: x, b :: y, ha, hb, h => by
    have h1 := ha a (.head _)
    have h2 := hb b (.head _)
    show (if a.toNat < b.toNat then (-1 : Int) else if b.toNat < a.toNat then 1 else Sy08.order (Sy08Neutral.nats x) (Sy08Neutral.nats y)) = -1
    unfold before at h
    by_cases e : a = b
    · rw [if_pos e] at h
      rw [if_neg (by omega), if_neg (by omega)]
      exact order_before (fun z hz => ha z (.tail _ hz)) (fun z hz => hb z (.tail _ hz)) h
    · rw [if_neg e] at h
      have h3 := of_decide_eq_true h
      rw [if_pos (by omega)]

theorem order_after : ∀ {a b : List Int}, (∀ x ∈ a, 0 ≤ x) → (∀ x ∈ b, 0 ≤ x) → a ≠ b → before a b = false → Sy08.order (Sy08Neutral.nats a) (Sy08Neutral.nats b) = 1
  | [], [], _, _, h, _ => absurd rfl h
  | [], _ :: _, _, _, _, h => by exact absurd h (fun h => nomatch h)
  | _ :: _, [], _, _, _, _ => rfl
  | a :: x, b :: y, ha, hb, hne, h => by
    have h1 := ha a (.head _)
    have h2 := hb b (.head _)
    show (if a.toNat < b.toNat then (-1 : Int) else if b.toNat < a.toNat then 1 else Sy08.order (Sy08Neutral.nats x) (Sy08Neutral.nats y)) = 1
    unfold before at h
    by_cases e : a = b
    · rw [if_pos e] at h
      rw [if_neg (by omega), if_neg (by omega)]
      exact order_after (fun z hz => ha z (.tail _ hz)) (fun z hz => hb z (.tail _ hz)) (fun e2 => hne (by rw [e, e2])) h
    · rw [if_neg e] at h
      have h3 := of_decide_eq_false h
      rw [if_neg (by omega), if_pos (by omega)]

theorem compare_eq {k : Int} {nss : List (List Int)} {c : Int} (h1 : Sy08Neutral.pieces (nss.take k.toNat) = some ((nss.take k.toNat).map Sy08Neutral.nats))
    (h2 : Sy08Neutral.pieces (nss.drop k.toNat) = some ((nss.drop k.toNat).map Sy08Neutral.nats)) (hc : c ≠ -2)
    (e : Sy08.order (Sy08Neutral.nats (nss.take k.toNat).flatten) (Sy08Neutral.nats (nss.drop k.toNat).flatten) = c) : PySy08.compare k nss = [c] := by
  show Sy08Neutral.told (Sy08.spec (.compare (Sy08Neutral.pieces (nss.take k.toNat)) (Sy08Neutral.pieces (nss.drop k.toNat)))) [] = [c]
  rw [h1, h2]
  show Sy08Neutral.told ⟨Sy08.order (Sy08.row ((nss.take k.toNat).map Sy08Neutral.nats)) (Sy08.row ((nss.drop k.toNat).map Sy08Neutral.nats)), []⟩ [] = [c]
  rw [m_flat, m_flat, e]
  exact m_told hc

/- sum -/

def evens : List Int → List Int
  | [] => []
  | [a] => [a]
  | a :: _ :: r => a :: evens r
def odds : List Int → List Int
  | [] => []
  | [_] => []
  | _ :: b :: r => b :: odds r

theorem pairs_eq : ∀ {l : List Int}, (∀ x ∈ l, 0 ≤ x) → ((Sy08.pairs (Sy08Neutral.nats l) : Nat) : Int) = 256 * (evens l).sum + (odds l).sum
  | [], _ => rfl
  | [a], h => by
    have h1 := h a (.head _)
    show ((256 * a.toNat : Nat) : Int) = 256 * (a + 0) + 0
    omega
  | a :: b :: r, h => by
    have h1 := h a (.head _)
    have h2 := h b (.tail _ (.head _))
    have ih := pairs_eq (l := r) fun x hx => h x (.tail _ (.tail _ hx))
    show ((256 * a.toNat + b.toNat + Sy08.pairs (Sy08Neutral.nats r) : Nat) : Int) = 256 * (a + (evens r).sum) + (b + (odds r).sum)
    omega

theorem sum_refused {nss : List (List Int)} (h : Sy08Neutral.pieces nss = none) : PySy08.sum_of nss = [-2] := by
  show Sy08Neutral.told (Sy08.spec (.sum (Sy08Neutral.pieces nss))) [] = [-2]
  rw [h]
  rfl

/-- a sum, and what it is folded to -/
def fold (s : Int) : Int := if s = 0 then 0 else (s - 1) % 65535 + 1

theorem fold_nat (s : Nat) : ((Sy08.folded s : Nat) : Int) = fold s := by
  unfold Sy08.folded fold
  by_cases h : s = 0
  · rw [if_pos h, if_pos (by omega)]
    rfl
  · rw [if_neg h, if_neg (by omega)]
    omega

theorem fold_turn {s t : Int} (h : 65535 < s) (e : t = s / 65536 + s % 65536) : fold t = fold s := by
  unfold fold
  rw [if_neg (by omega), if_neg (by omega)]
  omega

theorem fold_small {s : Int} (h0 : 0 ≤ s) (h : s ≤ 65535) : fold s = s := by
  unfold fold
  by_cases h : s = 0
  · rw [if_pos h, h]
  · rw [if_neg h]
    omega

theorem sum_good {nss : List (List Int)} (h : Sy08Neutral.pieces nss = some (nss.map Sy08Neutral.nats)) (hx : ∀ x ∈ nss.flatten, 0 ≤ x) :
    PySy08.sum_of nss = [fold (256 * (evens nss.flatten).sum + (odds nss.flatten).sum)] := by
  show Sy08Neutral.told (Sy08.spec (.sum (Sy08Neutral.pieces nss))) [] = _
  rw [h]
  show Sy08Neutral.told ⟨((Sy08.folded (Sy08.pairs (Sy08.row (nss.map Sy08Neutral.nats))) : Nat) : Int), []⟩ [] = _
  rw [m_flat, m_told (by omega), fold_nat, pairs_eq hx]
  rfl
end Ls
namespace Ls

theorem put_cut (fl g : List Int) {a S C : Int} (ha : 0 ≤ a) (hS : S = if (fl.length : Int) < a then (fl.length : Int) else a)
    (hC : C = if (fl.length : Int) - S < (g.length : Int) then (fl.length : Int) - S else (g.length : Int)) :
    0 ≤ S ∧ 0 ≤ C ∧ [C] ++ fl.take S.toNat ++ g.take C.toNat ++ fl.drop (S + C).toNat =
      ((g.take (fl.length - a.toNat)).length : Int) :: laidI fl a.toNat (g.take (fl.length - a.toNat)) := by
  unfold laidI
  have h1 : 0 ≤ S := by split at hS <;> omega
  have h3 : S ≤ fl.length := by split at hS <;> omega
  have h2 : 0 ≤ C := by split at hC <;> omega
  refine ⟨h1, h2, ?_⟩
  by_cases h : (fl.length : Int) < a
  · rw [if_pos h] at hS
    have e0 : C = 0 := by split at hC <;> omega
    have e1 : fl.length - a.toNat = 0 := by omega
    rw [e1, e0, hS]
    have e2 : fl.take a.toNat = fl := List.take_of_length_le (by omega)
    have e3 : fl.drop a.toNat = [] := List.drop_eq_nil_of_le (by omega)
    simp [e2, e3]
  · rw [if_neg h] at hS
    have e0 : C.toNat = min (fl.length - a.toNat) g.length := by split at hC <;> omega
    have e4 : C = ((min (fl.length - a.toNat) g.length : Nat) : Int) := by omega
    have e1 : g.take C.toNat = g.take (fl.length - a.toNat) := by
      refine List.take_eq_take_iff.mpr ?_
      omega
    have e2 : (S + C).toNat = a.toNat + (g.take (fl.length - a.toNat)).length := by
      rw [List.length_take]
      omega
    rw [e1, e2, List.length_take, ← e4, hS]
    simp [List.append_assoc]

theorem move_cut (fl asd : List Int) {b n t S C : Int} (ht : 0 ≤ t) (hasd : asd = (fl.drop b.toNat).take n.toNat)
    (hS : S = if (fl.length : Int) < t then (fl.length : Int) else t)
    (hC : C = if (fl.length : Int) - S < (asd.length : Int) then (fl.length : Int) - S else (asd.length : Int)) :
    0 ≤ S ∧ 0 ≤ C ∧ [C] ++ fl.take S.toNat ++ asd.take C.toNat ++ fl.drop (S + C).toNat =
      ((Sy08.span fl.length b.toNat t.toNat n.toNat : Nat) : Int) :: laidI fl t.toNat ((fl.drop b.toNat).take (Sy08.span fl.length b.toNat t.toNat n.toNat)) := by
  obtain ⟨h1, h2, h3⟩ := put_cut fl asd ht hS hC
  refine ⟨h1, h2, ?_⟩
  rw [h3]
  have e : asd.take (fl.length - t.toNat) = (fl.drop b.toNat).take (Sy08.span fl.length b.toNat t.toNat n.toNat) := by
    rw [hasd, List.take_take]
    unfold Sy08.span
    refine List.take_eq_take_iff.mpr ?_
    rw [List.length_drop]
    omega
  rw [e, List.length_take, List.length_drop]
  have e2 : min (Sy08.span fl.length b.toNat t.toNat n.toNat) (fl.length - b.toNat) = Sy08.span fl.length b.toNat t.toNat n.toNat := by
    unfold Sy08.span
    omega
  rw [e2]
end Ls
local macro_rules | `(tactic| walk_at "exec For Name Name") => `(tactic| (k_here; (first | (with_reducible show wpAny _ _ (exec (Stmt.For (Expr.Name _ _) (Expr.Name _ _) [Stmt.If _ _ _ _] [] _) _) _ _ _) | (with_reducible show wpAny _ _ (exec (Stmt.For (Expr.Name _ _) (Expr.Name _ _) [Stmt.Expr _ _] [] _) _) _ _ _)); (rename PyProof.Rows.Fr _ _ _ _ => lF'); (with_unfolding_all refine' PyProof.Rows.For_invVF lF' ?k1 ?k2 ?_; (case k1 => exact rfl); (case k2 => exact rfl); k_whole)))
local macro_rules | `(tactic| walk_at "pyIter ref") => `(tactic| ((with_reducible show wpAny _ _ (pyIter (Value.ref _)) (fun it s₂ => PyProof.Rows.LoopAtV _ _ _ _ _ _ [Stmt.If _ _ _ _] _ _ it s₂) _ _); k_here; (rename PyProof.Rows.Fr _ _ _ _ => lF'); (rename PyProof.Rows.News _ _ _ _ => lN'); (with_unfolding_all refine' Ls.search_lists Ls.Small (by rfl) lF' lN' (by assumption) (by assumption) (by assumption) Ls.small_nil (fun _ _ _ _ _ _ _ _ hEq' hL' hI' hfit' hIt' hoff' hP' F' N' => ?_) (fun _ _ _ hP' F' N' => ?_)); (all_goals (try clear lF' lN')); (all_goals (try k_fold))))
local macro_rules | `(tactic| walk_at "pyIter ref") => `(tactic| ((with_reducible show wpAny _ _ (pyIter (Value.ref _)) (fun it s₂ => PyProof.Rows.LoopAtV _ _ _ _ _ _ [Stmt.Expr _ _] _ _ it s₂) _ _); k_here; (rename PyProof.Rows.Fr _ _ _ _ => lF'); (rename PyProof.Rows.News _ _ _ _ => lN'); (with_unfolding_all refine' Ls.extend_lists (by rfl) lF' lN' (by assumption) (by assumption) (by assumption) (fun _ _ _ _ _ _ _ _ _ _ hEq' hL' hI' hU' hfit' hoff' F' N' => ?_) (fun _ _ _ _ _ hU' hfit' F' N' => ?_)); (all_goals (try clear lF' lN')); (all_goals (try k_fold))))
local macro_rules | `(tactic| walk_at "call builtin:list.extend") => `(tactic| (k_here; (with_reducible show wpAny _ _ (call (Value.builtin _) [Value.ref _, Value.ref _]) _ _ _); (rename PyProof.Rows.Fr _ _ _ _ => lF'); (rename PyProof.Rows.News _ _ _ _ => lN'); k_dflt (refine' Ls.extend_base lF' lN' (by first | exact Ls.off_rest (by assumption) (by assumption) | exact Ls.off_rest (List.forall_mem_nil _) (by assumption)) (by assumption) (by assumption) ?_); clear lF' lN'; intro h' k' F' N'))
local macro_rules | `(tactic| walk_at "InvEndN") => `(tactic| ((with_reducible show InvEndN _ _ (Ls.Kept _ _ _ _) _ _ _ _); (rename PyProof.Rows.News _ _ _ _ => nE'); (refine Ls.kept_end (by assumption) nE' (by rfl) (by (intro z hz; simp only [if_neg hz])) ?_); exact Ls.small_snoc (by assumption) (by omega)))
local macro_rules | `(tactic| walk_at "InvEndN") => `(tactic| ((with_reducible show InvEndN _ _ (Ls.Grown _ _ _ _ _) _ _ _ _); (rename PyProof.Rows.News _ _ _ _ => nE'); (refine Ls.grown_end (by assumption) nE' (by assumption) (by assumption) (by (intro z hz; simp only [if_neg hz])))))
namespace Fin4
open PyProof.Rows
theorem said : PySem.Challenge.rw_piecerow_s04_move.wellSaid = true := by decide +kernel
theorem req (b t n : Int) (nss : List (List Int)) : [WData.int b, WData.int t, WData.int n, ofPy (PyData.list (nss.map listDI))] =
    Codec.encAll PySem.Challenge.rw_piecerow_s04_move.args ((b, t, n, nss, ()) : Int × Int × Int × List (List Int) × Unit) := by
  rw [Ls.ofPy_lists]
  rfl
theorem fin {b t n : Int} {nss : List (List Int)} {d : WData} {ys : List Int} (hpre : PySem.Challenge.rw_piecerow_s04_move.pre [WData.int b, WData.int t, WData.int n, ofPy (PyData.list (nss.map listDI))] = true)
    (e : PySy08.move b t n nss = ys) (hd : d = WData.list (ys.map WData.int)) :
    PySem.Challenge.rw_piecerow_s04_move.post [WData.int b, WData.int t, WData.int n, ofPy (PyData.list (nss.map listDI))] d = true := by
  subst e
  exact Ls.post_at said _ (req b t n nss) (Ls.pre_at said _ (req b t n nss) hpre) hd
theorem many {b t n : Int} {nss : List (List Int)} (hpre : PySem.Challenge.rw_piecerow_s04_move.pre [WData.int b, WData.int t, WData.int n, ofPy (PyData.list (nss.map listDI))] = true) (h : 16 < (nss.length : Int)) :
    PySem.Challenge.rw_piecerow_s04_move.post [WData.int b, WData.int t, WData.int n, ofPy (PyData.list (nss.map listDI))] (ofPy (.list [PyData.int (-2)])) = true :=
  fin hpre (Ls.move_refused (Ls.pieces_many h)) (os_list rfl)
theorem long {b t n : Int} {nss pre post : List (List Int)} {ns : List Int} (hpre : PySem.Challenge.rw_piecerow_s04_move.pre [WData.int b, WData.int t, WData.int n, ofPy (PyData.list (nss.map listDI))] = true)
    (e : nss = pre ++ ns :: post) (h : 65536 < (ns.length : Int)) :
    PySem.Challenge.rw_piecerow_s04_move.post [WData.int b, WData.int t, WData.int n, ofPy (PyData.list (nss.map listDI))] (ofPy (.list [PyData.int (-2)])) = true :=
  fin hpre (Ls.move_refused (e ▸ Ls.pieces_long h)) (os_list rfl)
theorem good {b t n : Int} {nss : List (List Int)} {T : List Int} (hpre : PySem.Challenge.rw_piecerow_s04_move.pre [WData.int b, WData.int t, WData.int n, ofPy (PyData.list (nss.map listDI))] = true)
    (hs : Ls.Small nss) (h : ¬ 16 < (nss.length : Int))
    (hT : 0 ≤ b → 0 ≤ t → 0 ≤ n → T = ((Sy08.span nss.flatten.length b.toNat t.toNat n.toNat : Nat) : Int) ::
      Ls.laidI nss.flatten t.toNat ((nss.flatten.drop b.toNat).take (Sy08.span nss.flatten.length b.toNat t.toNat n.toNat))) :
    PySem.Challenge.rw_piecerow_s04_move.post [WData.int b, WData.int t, WData.int n, ofPy (PyData.list (nss.map listDI))]
      (WData.list (ofPys (T.map PyData.int))) = true := by
  have hw := Ls.pre_at said _ (req b t n nss) hpre
  obtain ⟨h1, hw⟩ := Ls.within_cons hw
  obtain ⟨h2, hw⟩ := Ls.within_cons hw
  obtain ⟨h3, hw⟩ := Ls.within_cons hw
  obtain ⟨h4, _⟩ := Ls.within_cons hw
  have e := hT (Ls.within_int h1).1 (Ls.within_int h2).1 (Ls.within_int h3).1
  subst e
  refine fin hpre (Ls.move_good (Ls.pieces_good (by omega) hs) (Ls.flat_nonneg (Ls.within_lists h4).2)) ?_
  rw [os_ofPys_ints]
theorem start_not {fl : List Int} {a : Int} (ha : 0 ≤ a) (h : (if (fl.length : Int) < a then (fl.length : Int) else a) < 0) : False := by
  split at h <;> omega
structure Known : Prop where
  mk ::
theorem nonneg {b t n : Int} {nss : List (List Int)} (hpre : PySem.Challenge.rw_piecerow_s04_move.pre [WData.int b, WData.int t, WData.int n, ofPy (PyData.list (nss.map listDI))] = true) : 0 ≤ b ∧ 0 ≤ t ∧ 0 ≤ n := by
  have hw := Ls.pre_at said _ (req b t n nss) hpre
  obtain ⟨h1, hw⟩ := Ls.within_cons hw
  obtain ⟨h2, hw⟩ := Ls.within_cons hw
  obtain ⟨h3, hw⟩ := Ls.within_cons hw
  exact ⟨(Ls.within_int h1).1, (Ls.within_int h2).1, (Ls.within_int h3).1⟩
end Fin4
local macro_rules | `(tactic| walk_at "subscriptTail Name Slice ref ref") => `(tactic| (k_here; (fail_if_success (have hm' : Fin4.Known := by assumption)); (have hm' : Fin4.Known := .mk); (have hn' := Fin4.nonneg (by assumption)); walk_at "subscriptTail Name Slice ref ref"))
set_option maxRecDepth 100000 in
set_option maxHeartbeats 8000000 in
theorem PySem.Challenge.cw_piecerow_s04_move_holds : PySem.Challenge.rw_piecerow_s04_move.Holds := by
  open_ks with [.int 0, .int 0, .int 0, .list []]
  · exact Fin4.many hpre (by assumption)
  · exact Fin4.long hpre (by assumption) (by assumption)
  · exact Fin4.good hpre (by assumption) (by assumption) fun hb ht hn => (Ls.move_cut _ _ ht (Ls.cut _ hb hn rfl rfl) rfl rfl).2.2
