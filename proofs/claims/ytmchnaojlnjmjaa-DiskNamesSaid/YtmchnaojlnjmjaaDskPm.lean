/- The program's disk (layer 11): its methods, as one. -/
import Derived.Test.YtmchnaojlnjmjaaDskPj
import Derived.Test.YtmchnaojlnjmjaaDskPh
import Derived.Test.YtmchnaojlnjmjaaDskDo
namespace Go.Proofs.Ytmchnaojlnjmjaa
open Go.RowKit Go.Maps

theorem prog_m : ProgM PK where
  kept := fun h hf hB => pk_kept h hf hB
  lt := fun h => pk_lt h
  met := fun h => pk_met h
  create := fun m hp hk hk4 _ hm => pcreate_any m hp hk hk4 hm
  append := fun m b pv bv hp hk hk4 _ hm hb hpv hbv h1 h2 => pappend_any m b pv bv hp hk hk4 hm hb hpv hbv h1 h2
  sync := fun m hp hk hk4 _ hm => psync_any m hp hk hk4 hm
  syncDir := fun hp hk hk4 _ => psyncDir_any hp hk hk4
  move := fun m n hp hk hk4 _ hm hn => pmove_any m n hp hk hk4 hm hn
  drop := fun m hp hk hk4 _ hm => pdrop_any m hp hk hk4 hm
  arm := fun fv a i hp hk hk4 _ hfv _ _ _ _ hfb => parm_any fv a i hp hk hk4 hfv hfb
  fall := fun hp _ _ _ => pfall_any hp
  up := fun ks sizes cuts kv zv cv hp hk hk4 _ h1 h2 h3 h4 h5 h6 h7 => pup_any ks sizes cuts kv zv cv hp hk hk4 h1 h2 h3 h4 h5 h6 h7
  flip := fun m bit hp hk hk4 _ hm _ h2 => pflip_any m bit hp hk hk4 hm h2
end Go.Proofs.Ytmchnaojlnjmjaa
