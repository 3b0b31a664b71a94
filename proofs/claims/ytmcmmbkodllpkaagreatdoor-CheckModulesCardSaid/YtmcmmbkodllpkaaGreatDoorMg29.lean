/-  -/
import Derived.Test.YtmcmmbkodllpkaaGreatDoorProg

