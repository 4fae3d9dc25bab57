import PyProof.Rows.All
import KE.OsGo
import KE.OsEnd
import Open.SpecLaws
import PySem.Challenge.RW_piecerow_s01_length
open PySem PySem.W
set_option Elab.async false
namespace Ls
open PySem PySem.W PySem.Calls PyProof.Rows PySem.Spec

section
variable {prog : Program} {w : World} {A : Around} {E : Value → Shared → Prop} {s : Shared}
variable {env : Env} {h₀ : Heap} {x : Str} {body : List Stmt} {Q : Flow → Shared → Prop}

/-- a for over a list of lists of whole numbers, by an invariant of names and ledger -/
theorem iter_lists {l : Addr} {vs : List Value} {nss : List (List Int)} {m₀ : Str → Option Value} {news : List (Addr × Obj)}
    (J : Nat → (Str → Option Value) → List (Addr × Obj) → Prop) (hh : A.handled = none)
    (hl : h₀.IsList l vs.toArray) (hi : SitAll ObjKind.listI h₀ vs nss)
    (F : Fr h₀ env.locals s.heap m₀) (N : News h₀ env.locals s.heap news) (hj : J 0 m₀ news)
    (turn : ∀ i ns a us m₁ news₁ h tk own, nss[i]? = some ns → h₀.IsList a us.toArray → IntsAre us ns →
      news₁.map (·.1) = news.map (·.1) → OwnOff own (news.map (·.1)) → J i m₁ news₁ →
      Fr h₀ env.locals h (fun y => if y = x then some (.ref a) else m₁ y) → News h₀ env.locals h (news₁ ++ own) →
      wpAny (model prog w) A (execs body env)
        (InvPostN h₀ env.locals (J (i + 1)) own (news.map (·.1)) { s with heap := h, toks := tk } Q) E
        { s with heap := h, toks := tk })
    (done : ∀ m₁ news₁ h tk, J nss.length m₁ news₁ → Fr h₀ env.locals h m₁ → News h₀ env.locals h news₁ →
      Q .next { s with heap := h, toks := tk }) :
    wpAny (model prog w) A (pyIter (.ref l)) (fun it s₂ => LoopAtV prog w A h₀ env x body Q E it s₂) E s := by
  have here : s.heap.IsList l vs.toArray := hl.at fun o e => F.keep l o e
  obtain ⟨ol, hol, _⟩ := id hl
  have low : l < h₀.objs.size := Heap.lt_size hol
  have apart : l ≠ s.heap.objs.size := Nat.ne_of_lt (Nat.lt_trans (Nat.lt_of_lt_of_le low F.above) F.ns.lt)
  have size : vs.toArray.size = nss.length := by rw [List.size_toArray]; exact hi.length
  refine wpAny_pyIter_list here ?_
  have Wk := Walks.list (prog := prog) (w := w) hh s.heap.objs.size l apart vs.toArray
  rw [size] at Wk
  refine loop_invN J Wk ?_ ?_ ?_ ?_ ?_ (F.push _) ?_ hj ?_ ?_
  · intro bad
    rcases List.mem_cons.mp bad with e | bad
    · exact Nat.lt_irrefl _ (e ▸ F.ns.lt)
    · have e := List.mem_singleton.mp bad
      exact Nat.lt_irrefl _ (e ▸ Nat.lt_of_lt_of_le low F.above)
  · intro b hb
    have e := List.mem_singleton.mp hb
    exact e ▸ next_is_new F
  · intro p hp bad
    have e := List.mem_singleton.mp bad
    exact Nat.lt_irrefl _ (e ▸ Heap.lt_size (N p hp).1)
  · intro p hp bad
    rcases List.mem_cons.mp bad with e | bad
    · exact Nat.lt_irrefl _ (e ▸ Heap.lt_size (N p hp).1)
    · have e := List.mem_singleton.mp bad
      have fresh := (N p hp).2.2
      rw [e, hol] at fresh
      cases fresh
  · exact ⟨⟨_, Heap.get?_push_size _ rfl, rfl, rfl⟩, here.at fun o e => Heap.get?_push_of_some _ e⟩
  · exact fun p hp => ⟨Heap.get?_push_of_some _ (N p hp).1, (N p hp).2⟩
  · intro i v m₁ news₁ h tk own _ hv hadr hoff hJ F₁ N₁
    have hv' : vs[i]? = some v := by simpa using hv
    obtain ⟨ns, hns, a, us, rfl, hL, hI⟩ := hi.get i v hv'
    exact turn i ns a us m₁ news₁ h tk own hns hL hI hadr hoff hJ F₁ N₁
  · exact done

/-- what holds between two turns of a loop that stores nothing -/
def Kept (x : Str) (m₀ : Str → Option Value) (news : List (Addr × Obj)) (P : Prop) (m : Str → Option Value) (nx : List (Addr × Obj)) : Prop :=
  nx = news ∧ (∀ z, z ≠ x → m z = m₀ z) ∧ P

theorem map_off {x : Str} {m m₀ : Str → Option Value} {v : Option Value} (h : ∀ z, z ≠ x → m z = m₀ z) :
    (fun y => if y = x then v else m y) = fun y => if y = x then v else m₀ y := by
  funext y
  by_cases e : y = x
  · rw [if_pos e, if_pos e]
  · rw [if_neg e, if_neg e]
    exact h y e

theorem split_at {α : Type} {l : List α} {i : Nat} {a : α} (h : l[i]? = some a) :
    l.take (i + 1) = l.take i ++ [a] ∧ l = l.take i ++ a :: l.drop (i + 1) := by
  have h1 : l.take (i + 1) = l.take i ++ [a] := by simp [List.take_add_one, h]
  refine ⟨h1, ?_⟩
  have h2 := List.take_append_drop (i + 1) l
  rw [h1, List.append_assoc] at h2
  exact h2.symm

/-- a search over a list of lists: it stores nothing, a turn may leave -/
theorem search_lists {l : Addr} {vs : List Value} {nss : List (List Int)} {as : List Addr} {m₀ : Str → Option Value} {news : List (Addr × Obj)}
    (P : List (List Int) → Prop) (hh : A.handled = none)
    (F : Fr h₀ env.locals s.heap m₀) (N : News h₀ env.locals s.heap news)
    (hl : h₀.IsList l vs.toArray) (hr : ReadsAll h₀ vs (nss.map listDI) as)
    (hlay : PyData.layable0 (.list (nss.map listDI)) = true) (hp : P [])
    (turn : ∀ pre ns post a us h tk own, nss = pre ++ ns :: post → h₀.IsList a us.toArray → IntsAre us ns → ns.length ≤ 2 ^ 20 → InItemTurn →
      OwnOff own (news.map (·.1)) → P pre →
      Fr h₀ env.locals h (fun y => if y = x then some (.ref a) else m₀ y) → News h₀ env.locals h (news ++ own) →
      wpAny (model prog w) A (execs body env)
        (InvPostN h₀ env.locals (Kept x m₀ news (P (pre ++ [ns]))) own (news.map (·.1)) { s with heap := h, toks := tk } Q) E
        { s with heap := h, toks := tk })
    (done : ∀ (u : Str → Option Value) h tk, P nss → Fr h₀ env.locals h (fun y => if y = x then u y else m₀ y) →
      News h₀ env.locals h news → Q .next { s with heap := h, toks := tk }) :
    wpAny (model prog w) A (pyIter (.ref l)) (fun it s₂ => LoopAtV prog w A h₀ env x body Q E it s₂) E s := by
  refine iter_lists (fun i => Kept x m₀ news (P (nss.take i))) hh hl (readsAll_listsI hr) F N ⟨rfl, fun _ _ => rfl, by simpa using hp⟩ ?_ ?_
  · rintro i ns a us m₁ news₁ h tk own hns hL hI _ hoff ⟨rfl, hm, hP⟩ F₁ N₁
    obtain ⟨e1, e2⟩ := split_at hns
    rw [map_off hm] at F₁
    rw [e1]
    exact turn _ ns _ a us h tk own e2 hL hI (fit_itemI hlay (List.mem_of_getElem? hns)) .mk hoff hP F₁ N₁
  · rintro m₁ news₁ h tk ⟨rfl, hm, hP⟩ F₁ N₁
    rw [List.take_length] at hP
    refine done m₁ h tk hP ?_ N₁
    have e : (fun y => if y = x then m₁ y else m₀ y) = m₁ := by
      funext y
      by_cases e : y = x
      · rw [if_pos e]
      · rw [if_neg e]
        exact (hm y e).symm
    rw [e]
    exact F₁

theorem kept_end {L : Addr} {m₀ m' : Str → Option Value} {news news' own : List (Addr × Obj)} {P : Prop} {s₁ : Shared} {h' : Heap} {tk : Nat}
    (F : Fr h₀ L h' m') (N : News h₀ L h' news') (hn : news' = news ++ own) (hm : ∀ z, z ≠ x → m' z = m₀ z) (hp : P) :
    InvEndN h₀ L (Kept x m₀ news P) own (news.map (·.1)) s₁ { s₁ with heap := h', toks := tk } := by
  subst hn
  exact InvEndN.intro F N ⟨rfl, hm, hp⟩ rfl (fun p hp => List.mem_append.mpr (.inl hp)) (fun p hp => List.mem_append.mpr (.inr hp))
end
end Ls
namespace Ls
open PySem PySem.W PySem.Calls PyProof.Rows PySem.Spec

/- the request, read -/

theorem encAll_inj : ∀ (cs : List Codec), cs.all Codec.ok = true → ∀ a b : Codec.denoteAll cs, Codec.encAll cs a = Codec.encAll cs b → a = b
  | [], _, _, _, _ => rfl
  | c :: cs, k, a, b, h => by
    have k1 : c.ok = true ∧ cs.all Codec.ok = true := by
      have k2 : (c.ok && cs.all Codec.ok) = true := k
      exact Bool.and_eq_true_iff.mp k2
    have h1 : c.enc a.1 :: Codec.encAll cs a.2 = c.enc b.1 :: Codec.encAll cs b.2 := h
    injection h1 with h2 h3
    have e1 := Codec.enc_inj c k1.1 a.1 b.1 h2
    have e2 := encAll_inj cs k1.2 a.2 b.2 h3
    exact Prod.ext e1 e2

theorem pre_at {r : OpenSpec} (said : r.wellSaid = true) (a : Codec.denoteAll r.args) {as : List WData} (e : as = Codec.encAll r.args a)
    (h : r.pre as = true) : Codec.withinAll r.args a = true := by
  obtain ⟨b, hb, _, eb⟩ := (OpenSpec.pre_iff said as).mp h
  have e2 : a = b := encAll_inj r.args (Codec.ok_all r.args (OpenSpec.fits_of said)) a b (e.symm.trans eb)
  exact e2 ▸ hb

theorem post_at {r : OpenSpec} (said : r.wellSaid = true) (a : Codec.denoteAll r.args) {as : List WData} (e : as = Codec.encAll r.args a)
    (h : Codec.withinAll r.args a = true) {d : WData} (hd : d = r.ret.enc (Codec.app r.args r.f a)) : r.post as d = true := by
  subst e
  exact (OpenSpec.post_iff said h d []).mpr hd

theorem ofPy_ints (ns : List Int) : ofPy (listDI ns) = WData.list (ns.map WData.int) := os_list rfl

theorem ofPys_lists : ∀ nss : List (List Int), ofPys (nss.map listDI) = nss.map fun ns => WData.list (ns.map WData.int)
  | [] => by simp [ofPys]
  | ns :: r => by
    rw [List.map_cons, List.map_cons, ← ofPys_lists r, ← ofPy_ints ns]
    simp [ofPys]

theorem ofPy_lists (nss : List (List Int)) : ofPy (PyData.list (nss.map listDI)) = WData.list (nss.map fun ns => WData.list (ns.map WData.int)) := by
  rw [← ofPys_lists]
  simp [ofPy]

theorem ans_list {ds : List PyData} {ys : List Int} {lo hi : Int} {least most : Nat} (h : ds = ys.map PyData.int) :
    ofPy (.list ds) = (Codec.list least most (.int lo hi)).enc ys := os_list h

theorem within_lists {nss : List (List Int)} {a b c d : Nat} {lo hi : Int}
    (h : (Codec.list a b (.list c d (.int lo hi))).within nss = true) :
    nss.length ≤ b ∧ ∀ ns ∈ nss, ns.length ≤ d ∧ ∀ x ∈ ns, lo ≤ x ∧ x ≤ hi := by
  have h1 : (Codec.inNat a b nss.length && nss.all fun ns => (Codec.inNat c d ns.length && ns.all (Codec.inInt lo hi))) = true := h
  rw [Bool.and_eq_true_iff] at h1
  refine ⟨(Codec.inNat_iff.mp h1.1).2, fun ns hns => ?_⟩
  have h2 := List.all_eq_true.mp h1.2 ns hns
  rw [Bool.and_eq_true_iff] at h2
  exact ⟨(Codec.inNat_iff.mp h2.1).2, fun x hx => Codec.inInt_iff.mp (List.all_eq_true.mp h2.2 x hx)⟩

/- the specification, for pieces that are refused and for others -/

structure Small (nss : List (List Int)) : Prop where
  all : ∀ ns ∈ nss, ns.length ≤ 65536

theorem small_nil : Small [] := ⟨fun _ h => nomatch h⟩
theorem small_snoc {pre : List (List Int)} {ns : List Int} (h : Small pre) (hn : (ns.length : Int) ≤ 65536) : Small (pre ++ [ns]) := by
  refine ⟨fun ms hm => ?_⟩
  rcases List.mem_append.mp hm with hm | hm
  · exact h.all ms hm
  · rw [List.mem_singleton.mp hm]
    omega

theorem pieces_many {nss : List (List Int)} (h : 16 < (nss.length : Int)) : Sy08Neutral.pieces nss = none := by
  unfold Sy08Neutral.pieces
  refine if_neg ?_
  intro hc
  have h1 := (Bool.and_eq_true_iff.mp hc).1
  have h2 : nss.length ≤ 16 := of_decide_eq_true h1
  omega

theorem pieces_long {pre post : List (List Int)} {ns : List Int} (h : 65536 < (ns.length : Int)) : Sy08Neutral.pieces (pre ++ ns :: post) = none := by
  unfold Sy08Neutral.pieces
  refine if_neg ?_
  intro hc
  have h1 := List.all_eq_true.mp (Bool.and_eq_true_iff.mp hc).2 ns (List.mem_append.mpr (.inr (.head _)))
  have h2 : ns.length ≤ 65536 := of_decide_eq_true h1
  omega

theorem pieces_good {nss : List (List Int)} (h : (nss.length : Int) ≤ 16) (hs : Small nss) : Sy08Neutral.pieces nss = some (nss.map Sy08Neutral.nats) := by
  unfold Sy08Neutral.pieces
  refine if_pos ?_
  rw [Bool.and_eq_true_iff]
  refine ⟨decide_eq_true (by show nss.length ≤ 16; omega), ?_⟩
  refine List.all_eq_true.mpr fun ns hns => decide_eq_true (hs.all ns hns)

theorem nats_flatten (nss : List (List Int)) : Sy08.row (nss.map Sy08Neutral.nats) = Sy08Neutral.nats nss.flatten := by
  unfold Sy08.row Sy08Neutral.nats
  exact (List.map_flatten).symm

theorem length_refused {nss : List (List Int)} (h : Sy08Neutral.pieces nss = none) : PySy08.length nss = [-2] := by
  show Sy08Neutral.told (Sy08.spec (.length (Sy08Neutral.pieces nss))) [] = [-2]
  rw [h]
  rfl

theorem length_good {nss : List (List Int)} (h : Sy08Neutral.pieces nss = some (nss.map Sy08Neutral.nats)) : PySy08.length nss = [(nss.flatten.length : Int)] := by
  show Sy08Neutral.told (Sy08.spec (.length (Sy08Neutral.pieces nss))) [] = _
  rw [h]
  show Sy08Neutral.told ⟨((Sy08.row (nss.map Sy08Neutral.nats)).length : Int), []⟩ [] = _
  rw [nats_flatten]
  unfold Sy08Neutral.told Sy08Neutral.nats
  rw [List.length_map]
  refine if_neg ?_
  show ¬ ((nss.flatten.length : Int) = -2)
  omega

theorem fold_lengths : ∀ (nss : List (List Int)) (z : Int × Unit),
    (nss.foldl (fun (σ : Int × Unit) (a : List Int) => (σ.fst + (a.length : Int), ())) z).fst = z.fst + (nss.flatten.length : Int)
  | [], z => by simp
  | ns :: r, z => by
    rw [List.foldl_cons, fold_lengths r, List.flatten_cons, List.length_append]
    show z.fst + (ns.length : Int) + _ = _
    omega
end Ls
local macro_rules | `(tactic| walk_at "exec For Name Name") => `(tactic| (k_here; (with_reducible show wpAny _ _ (exec (Stmt.For (Expr.Name _ _) (Expr.Name _ _) [Stmt.If _ _ _ _] [] _) _) _ _ _); (rename PyProof.Rows.Fr _ _ _ _ => lF'); (with_unfolding_all refine' PyProof.Rows.For_invVF lF' ?k1 ?k2 ?_; (case k1 => exact rfl); (case k2 => exact rfl); k_whole)))
local macro_rules | `(tactic| walk_at "pyIter ref") => `(tactic| ((with_reducible show wpAny _ _ (pyIter (Value.ref _)) (fun it s₂ => PyProof.Rows.LoopAtV _ _ _ _ _ _ [Stmt.If _ _ _ _] _ _ it s₂) _ _); k_here; (rename PyProof.Rows.Fr _ _ _ _ => lF'); (rename PyProof.Rows.News _ _ _ _ => lN'); (with_unfolding_all refine' Ls.search_lists Ls.Small (by rfl) lF' lN' (by assumption) (by assumption) (by assumption) Ls.small_nil ?turn ?done); (case' turn => (clear lF' lN'; intro _ _ _ _ _ _ _ _ hEq' hL' hI' hfit' hIt' hoff' hP' F' N')); (case' done => (clear lF' lN'; intro _ _ _ hP' F' N')); (all_goals (try k_fold))))
local macro_rules | `(tactic| walk_at "InvEndN") => `(tactic| ((with_reducible show InvEndN _ _ (Ls.Kept _ _ _ _) _ _ _ _); (rename PyProof.Rows.News _ _ _ _ => nE'); (refine Ls.kept_end (by assumption) nE' (by rfl) (by (intro z hz; simp only [if_neg hz])) ?_); exact Ls.small_snoc (by assumption) (by omega)))
namespace Fin1
open PyProof.Rows
theorem said : PySem.Challenge.rw_piecerow_s01_length.wellSaid = true := by decide +kernel
theorem req (nss : List (List Int)) : [ofPy (PyData.list (nss.map listDI))] = Codec.encAll PySem.Challenge.rw_piecerow_s01_length.args ((nss, ()) : List (List Int) × Unit) := by
  rw [Ls.ofPy_lists]
  rfl
theorem fin {nss : List (List Int)} {ds : List PyData} {ys : List Int} (hpre : PySem.Challenge.rw_piecerow_s01_length.pre [ofPy (PyData.list (nss.map listDI))] = true)
    (e : PySy08.length nss = ys) (hd : ds = ys.map PyData.int) : PySem.Challenge.rw_piecerow_s01_length.post [ofPy (PyData.list (nss.map listDI))] (ofPy (.list ds)) = true := by
  subst e
  refine Ls.post_at said _ (req nss) (Ls.pre_at said _ (req nss) hpre) ?_
  exact Ls.ans_list hd
theorem many {nss : List (List Int)} (hpre : PySem.Challenge.rw_piecerow_s01_length.pre [ofPy (PyData.list (nss.map listDI))] = true) (h : 16 < (nss.length : Int)) :
    PySem.Challenge.rw_piecerow_s01_length.post [ofPy (PyData.list (nss.map listDI))] (ofPy (.list [PyData.int (-2)])) = true :=
  fin hpre (Ls.length_refused (Ls.pieces_many h)) rfl
theorem long {nss pre post : List (List Int)} {ns : List Int} (hpre : PySem.Challenge.rw_piecerow_s01_length.pre [ofPy (PyData.list (nss.map listDI))] = true)
    (e : nss = pre ++ ns :: post) (h : 65536 < (ns.length : Int)) :
    PySem.Challenge.rw_piecerow_s01_length.post [ofPy (PyData.list (nss.map listDI))] (ofPy (.list [PyData.int (-2)])) = true :=
  fin hpre (Ls.length_refused (e ▸ Ls.pieces_long h)) rfl
theorem good {nss : List (List Int)} (hpre : PySem.Challenge.rw_piecerow_s01_length.pre [ofPy (PyData.list (nss.map listDI))] = true)
    (hs : Ls.Small nss) (h : ¬ 16 < (nss.length : Int)) :
    PySem.Challenge.rw_piecerow_s01_length.post [ofPy (PyData.list (nss.map listDI))]
      (ofPy (.list [PyData.int (nss.foldl (fun (σ : Int × Unit) (a : List Int) => (σ.fst + (a.length : Int), ())) (0, ())).fst])) = true := by
  refine fin hpre (Ls.length_good (Ls.pieces_good (by omega) hs)) ?_
  rw [Ls.fold_lengths]
  simp
end Fin1
set_option maxRecDepth 100000 in
set_option maxHeartbeats 8000000 in
theorem PySem.Challenge.cw_piecerow_s01_length_holds : PySem.Challenge.rw_piecerow_s01_length.Holds := by
  open_ks
  · exact Fin1.many hpre (by assumption)
  · exact Fin1.good hpre (by assumption) (by assumption)
  · exact Fin1.long hpre (by assumption) (by assumption)
